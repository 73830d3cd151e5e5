/- More points, a greater Need, and what weighs nothing: the maths of ScoreMore. -/
import Derived.Test.YtpahcbhikmfamaaGreatSRef8
import Derived.Test.YtpahcbhikmfamaaGreatWQ1
import Derived.Test.YtpahcbhikmfamaaGreatSPrg10

namespace Go.Proofs.YtpahcbhikmfamaaGreat

def MoreS (s s' : Scl) : Prop := s'.cuts = s.cuts ∧ (s.non ≤ s'.non ∧ s'.non ≤ 1000000) ∧ s'.pts.length = s.pts.length ∧ ∀ k, k < s.pts.length → s.pts.getD k 0 ≤ s'.pts.getD k 0 ∧ s'.pts.getD k 0 ≤ 1000000
def MoreC (c c' : Crd) : Prop := c'.weight = c.weight ∧ (c.base ≤ c'.base ∧ c'.base ≤ 1000000) ∧ c'.scales.length = c.scales.length ∧ ∀ k, k < c.scales.length → MoreS (c.scales.getD k default) (c'.scales.getD k default)
def MoreN (n n' : Nod) : Prop := n'.tr = n.tr ∧ n'.cut = n.cut ∧ n'.low = n.low ∧ n'.high = n.high ∧ (n.tr = -1 → n.pts ≤ n'.pts ∧ n'.pts ≤ 1000000) ∧ (n.tr ≠ -1 → n'.pts = n.pts)
def MoreT (t t' : Tre) : Prop := t'.weight = t.weight ∧ t'.nodes.length = t.nodes.length ∧ ∀ k, k < t.nodes.length → MoreN (t.nodes.getD k default) (t'.nodes.getD k default)
instance : Inhabited Crd := ⟨⟨0, 0, []⟩⟩
instance : Inhabited Tre := ⟨⟨0, []⟩⟩
/-- A model with more points. -/
def MoreM (m m' : Mdl) : Prop := m'.traits = m.traits ∧ m'.need = m.need ∧ m'.cards.length = m.cards.length ∧ m'.trees.length = m.trees.length ∧ (∀ k, k < m.cards.length → MoreC (m.cards.getD k default) (m'.cards.getD k default)) ∧ ∀ k, k < m.trees.length → MoreT (m.trees.getD k default) (m'.trees.getD k default)

theorem mem_getD {α : Type} {l : List α} {d x : α} (h : x ∈ l) : ∃ k, k < l.length ∧ l.getD k d = x := by
  obtain ⟨k, hk, e⟩ := List.mem_iff_getElem.1 h
  exact ⟨k, hk, by rw [getD_lt _ _ hk]; exact e⟩
theorem getD_mem {α : Type} {l : List α} {d : α} {k : Nat} (h : k < l.length) : l.getD k d ∈ l := by rw [getD_lt _ _ h]; exact List.getElem_mem h
theorem getD_ge {α : Type} {l : List α} {d : α} {k : Nat} (h : l.length ≤ k) : l.getD k d = d := by
  rw [List.getD_eq_getElem?_getD, List.getElem?_eq_none h]; rfl
theorem more_scl {s s' : Scl} (h : MoreS s s') (hb : sclB s = true) : sclB s' = true := by
  obtain ⟨h1, h2, h3, h4⟩ := h
  obtain ⟨b1, b2, b3, b4, b5⟩ := sclB_iff.1 hb
  refine sclB_iff.2 ⟨by rw [h1]; exact b1, by rw [h3, h1]; exact b2, ptB_iff.2 ?_, by rw [h1]; exact b4, fun p hp => ?_⟩
  · have := ptB_iff.1 b3; omega
  · obtain ⟨k, hk, rfl⟩ := mem_getD (d := 0) hp
    have h5 := h4 k (by omega)
    have h6 := ptB_iff.1 (b5 _ (getD_mem (d := 0) (show k < s.pts.length by omega)))
    exact ptB_iff.2 (by omega)
theorem more_onScl {s s' : Scl} (h : MoreS s s') (v : Int) : onScl s v ≤ onScl s' v := by
  obtain ⟨h1, h2, h3, h4⟩ := h
  unfold onScl
  rw [h1]
  split
  · exact h2.1
  · rcases Nat.lt_or_ge (cntLe s.cuts v) s.pts.length with h5 | h5
    · exact (h4 _ h5).1
    · rw [getD_ge h5, getD_ge (by omega)]; exact Int.le_refl _
theorem moreS_refl_default : ∀ v : Int, onScl (default : Scl) v ≤ onScl (default : Scl) v := fun _ => Int.le_refl _
theorem more_scls {l l' : List Scl} (hl : l'.length = l.length) (h : ∀ k, k < l.length → MoreS (l.getD k default) (l'.getD k default)) (x : List Int) : ∀ n, sclsUp l x n ≤ sclsUp l' x n
  | 0 => Int.le_refl _
  | n + 1 => by
    have ih := more_scls hl h x n
    unfold sclsUp
    have : onScl (l.getD n default) (x.getD n 0) ≤ onScl (l'.getD n default) (x.getD n 0) := by
      rcases Nat.lt_or_ge n l.length with h5 | h5
      · exact more_onScl (h n h5) _
      · rw [getD_ge h5, getD_ge (l := l') (by omega)]; exact Int.le_refl _
    omega
theorem more_onCrd {c c' : Crd} (h : MoreC c c') (x : List Int) : onCrd c x ≤ onCrd c' x := by
  obtain ⟨_, h2, h3, h4⟩ := h
  unfold onCrd
  rw [h3]
  have := more_scls h3 h4 x c.scales.length
  omega
theorem more_crd {traits : Int} {c c' : Crd} (h : MoreC c c') (hb : crdB traits c = true) : crdB traits c' = true := by
  obtain ⟨h1, h2, h3, h4⟩ := h
  obtain ⟨b1, b2, b3, b4⟩ := crdB_parts hb
  unfold crdB
  simp only [Bool.and_eq_true, decide_eq_true_eq, List.all_eq_true]
  refine ⟨⟨⟨inN_iff.2 (by rw [h1]; exact b1), ptB_iff.2 (by have := ptB_iff.1 b2; omega)⟩, by rw [h3]; exact b3⟩, fun s hs => ?_⟩
  obtain ⟨k, hk, rfl⟩ := mem_getD (d := default) hs
  exact more_scl (h4 k (by omega)) (b4 _ (getD_mem (by omega)))
theorem more_nod {n : Nat} {traits : Int} {i : Nat} {x y : Nod} (h : MoreN x y) (hb : nodB n traits i x = true) : nodB n traits i y = true := by
  obtain ⟨h1, h2, h3, h4, h5, h6⟩ := h
  by_cases ht : x.tr = -1
  · rw [nodB_leaf ht] at hb
    rw [nodB_leaf (by rw [h1]; exact ht), h2, h3, h4]
    simp only [Bool.and_eq_true] at hb ⊢
    have := ptB_iff.1 hb.2
    exact ⟨hb.1, ptB_iff.2 (by have := h5 ht; omega)⟩
  · rw [nodB_node ht] at hb
    rw [nodB_node (by rw [h1]; exact ht), h1, h2, h3, h4, h6 ht]
    exact hb
theorem more_nodD {l l' : List Nod} (hl : l'.length = l.length) (h : ∀ k, k < l.length → MoreN (l.getD k default) (l'.getD k default)) (k : Nat) : MoreN (l.getD k default) (l'.getD k default) := by
  rcases Nat.lt_or_ge k l.length with h5 | h5
  · exact h k h5
  · rw [getD_ge h5, getD_ge (l := l') (by omega)]
    exact ⟨rfl, rfl, rfl, rfl, (fun e => by cases e), fun _ => rfl⟩
theorem more_tre {traits : Int} {t t' : Tre} (h : MoreT t t') (hb : treB traits t = true) : treB traits t' = true := by
  obtain ⟨h1, h2, h3⟩ := h
  obtain ⟨b1, b2, b3⟩ := treB_parts hb
  unfold treB
  simp only [Bool.and_eq_true]
  refine ⟨⟨inN_iff.2 (by rw [h1]; exact b1), inN_iff.2 (by omega)⟩, rangeB_iff.2 fun i hi => ?_⟩
  rw [h2] at hi ⊢
  exact more_nod (more_nodD h2 h3 i) (b3 i hi)
theorem more_go {l l' : List Nod} (hl : l'.length = l.length) (h : ∀ k, k < l.length → MoreN (l.getD k default) (l'.getD k default)) (x : List Int) : ∀ f a, treGo l x f a ≤ treGo l' x f a
  | 0, _ => Int.le_refl _
  | f + 1, a => by
    obtain ⟨h1, h2, h3, h4, h5, h6⟩ := more_nodD hl h a
    unfold treGo
    rw [h1, h2, h3, h4]
    by_cases ht : (l.getD a default).tr = -1
    · rw [if_pos ht, if_pos ht]; exact (h5 ht).1
    · rw [if_neg ht, if_neg ht]
      split
      · exact more_go hl h x f _
      · exact more_go hl h x f _
theorem more_onTre {t t' : Tre} (h : MoreT t t') (x : List Int) : onTre t x ≤ onTre t' x := by
  unfold onTre
  rw [h.2.1]
  exact more_go h.2.1 h.2.2 x _ _
theorem sumL_mono : ∀ {l l' : List Int}, l'.length = l.length → (∀ k, k < l.length → l.getD k 0 ≤ l'.getD k 0) → sumL l ≤ sumL l'
  | [], [], _, _ => Int.le_refl _
  | [], _ :: _, h, _ => by simp at h
  | _ :: _, [], h, _ => by simp at h
  | a :: l, b :: l', h, hk => by
    have h0 := hk 0 (by simp)
    have ih := sumL_mono (l := l) (l' := l') (by simpa using h) (fun k hk' => by have := hk (k + 1) (by simpa using hk'); simpa using this)
    simp only [List.getD_cons_zero] at h0
    unfold sumL
    omega
/-- With more points a model stays valid, and no score is less. -/
theorem more_model {m m' : Mdl} (h : MoreM m m') (hb : mdlB m = true) : mdlB m' = true ∧ ∀ x, scoreM m x ≤ scoreM m' x := by
  obtain ⟨h1, h2, h3, h4, h5, h6⟩ := h
  obtain ⟨b1, b2, b3, b4, b5, b6⟩ := mdlB_parts hb
  refine ⟨?_, fun x => ?_⟩
  · unfold mdlB
    simp only [Bool.and_eq_true, decide_eq_true_eq, List.all_eq_true]
    refine ⟨⟨⟨⟨⟨inN_iff.2 (by rw [h1]; exact b1), ptB_iff.2 (by rw [h2]; exact b2)⟩, by omega⟩, by omega⟩, fun c hc => ?_⟩, fun t ht => ?_⟩
    · obtain ⟨k, hk, rfl⟩ := mem_getD (d := default) hc
      rw [h1]
      exact more_crd (h5 k (by omega)) (b5 _ (getD_mem (by omega)))
    · obtain ⟨k, hk, rfl⟩ := mem_getD (d := default) ht
      rw [h1]
      exact more_tre (h6 k (by omega)) (b6 _ (getD_mem (by omega)))
  · unfold scoreM
    rw [sumL_append, sumL_append]
    have e1 : sumL (m.cards.map fun c => c.weight * onCrd c x) ≤ sumL (m'.cards.map fun c => c.weight * onCrd c x) := by
      refine sumL_mono (by simpa using h3) fun k hk => ?_
      rw [List.length_map] at hk
      have h7 := h5 k hk
      have h8 := (crdB_parts (b5 _ (getD_mem (d := default) hk))).1.1
      rw [getD_lt _ _ (by simpa using hk), getD_lt _ _ (by simp; omega)]
      simp only [List.getElem_map]
      rw [getD_lt _ _ hk, getD_lt _ _ (by omega)] at h7
      rw [getD_lt _ _ hk] at h8
      rw [h7.1]
      exact Int.mul_le_mul_of_nonneg_left (more_onCrd h7 x) h8
    have e2 : sumL (m.trees.map fun t => t.weight * onTre t x) ≤ sumL (m'.trees.map fun t => t.weight * onTre t x) := by
      refine sumL_mono (by simpa using h4) fun k hk => ?_
      rw [List.length_map] at hk
      have h7 := h6 k hk
      have h8 := (treB_parts (b6 _ (getD_mem (d := default) hk))).1.1
      rw [getD_lt _ _ (by simpa using hk), getD_lt _ _ (by simp; omega)]
      simp only [List.getElem_map]
      rw [getD_lt _ _ hk, getD_lt _ _ (by omega)] at h7
      rw [getD_lt _ _ hk] at h8
      rw [h7.1]
      exact Int.mul_le_mul_of_nonneg_left (more_onTre h7 x) h8
    omega
/-- Another Need: the score is the same. -/
theorem need_model {m : Mdl} {n : Int} (hb : mdlB m = true) (hn : -1000000 ≤ n ∧ n ≤ 1000000) : mdlB ⟨m.traits, m.cards, m.trees, n⟩ = true ∧ ∀ x, scoreM ⟨m.traits, m.cards, m.trees, n⟩ x = scoreM m x := by
  obtain ⟨b1, b2, b3, b4, b5, b6⟩ := mdlB_parts hb
  refine ⟨?_, fun x => rfl⟩
  unfold mdlB
  simp only [Bool.and_eq_true, decide_eq_true_eq, List.all_eq_true]
  exact ⟨⟨⟨⟨⟨inN_iff.2 b1, ptB_iff.2 hn⟩, b3⟩, b4⟩, b5⟩, b6⟩
/-- A tree of one leaf, and a card, that weigh nothing. -/
def idleT : Tre := ⟨0, [⟨-1, 0, 0, 0, 77⟩]⟩
def idleC (n : Nat) : Crd := ⟨0, -5, List.replicate n ⟨[], [9], 3⟩⟩
theorem idle_tree {m : Mdl} (hb : mdlB m = true) (hl : m.trees.length < 2) : mdlB ⟨m.traits, m.cards, m.trees ++ [idleT], m.need⟩ = true ∧ ∀ x, scoreM ⟨m.traits, m.cards, m.trees ++ [idleT], m.need⟩ x = scoreM m x := by
  obtain ⟨b1, b2, b3, b4, b5, b6⟩ := mdlB_parts hb
  refine ⟨?_, fun x => ?_⟩
  · unfold mdlB
    simp only [Bool.and_eq_true, decide_eq_true_eq, List.all_eq_true]
    refine ⟨⟨⟨⟨⟨inN_iff.2 b1, ptB_iff.2 b2⟩, b3⟩, by simp; omega⟩, b5⟩, fun t ht => ?_⟩
    rcases List.mem_append.1 ht with h | h
    · exact b6 t h
    · rw [List.mem_singleton] at h
      subst h
      unfold treB idleT
      simp [inN, rangeB, nodB, ptB]
  · unfold scoreM
    rw [List.map_append, sumL_append, sumL_append, sumL_append]
    simp [idleT, sumL]
theorem idle_card {m : Mdl} {n : Nat} (hb : mdlB m = true) (hl : m.cards.length < 2) (hn : (n : Int) = m.traits) : mdlB ⟨m.traits, m.cards ++ [idleC n], m.trees, m.need⟩ = true ∧ ∀ x, scoreM ⟨m.traits, m.cards ++ [idleC n], m.trees, m.need⟩ x = scoreM m x := by
  obtain ⟨b1, b2, b3, b4, b5, b6⟩ := mdlB_parts hb
  refine ⟨?_, fun x => ?_⟩
  · unfold mdlB
    simp only [Bool.and_eq_true, decide_eq_true_eq, List.all_eq_true]
    refine ⟨⟨⟨⟨⟨inN_iff.2 b1, ptB_iff.2 b2⟩, by simp; omega⟩, b4⟩, fun c hc => ?_⟩, b6⟩
    rcases List.mem_append.1 hc with h | h
    · exact b5 c h
    · rw [List.mem_singleton] at h
      subst h
      unfold crdB idleC
      simp only [Bool.and_eq_true, decide_eq_true_eq, List.all_eq_true, List.length_replicate]
      refine ⟨⟨⟨by decide, by decide⟩, hn⟩, fun s hs => ?_⟩
      rw [(List.mem_replicate.1 hs).2]
      decide
  · unfold scoreM
    rw [List.map_append, sumL_append, sumL_append, sumL_append]
    simp [idleC, sumL]
end Go.Proofs.YtpahcbhikmfamaaGreat

namespace Go.Proofs.YtpahcbhikmfamaaGreat
open Go.RowKit Go.Maps

/-! More points, where they lie. -/
def UpL (cl cl' : List CrdD) : Prop := cl'.length = cl.length ∧ ∀ (i : Nat) (_ : i < cl.length) (_ : i < cl'.length), MoreC cl[i].v cl'[i].v ∧ cl'[i].S = cl[i].S
def UpT (tl tl' : List TreD) : Prop := tl'.length = tl.length ∧ ∀ (i : Nat) (_ : i < tl.length) (_ : i < tl'.length), MoreT tl[i].v tl'[i].v ∧ tl'[i].T = tl[i].T
theorem moreS_refl {s : Scl} (h : sclB s = true) : MoreS s s := by
  obtain ⟨_, _, h3, _, h5⟩ := sclB_iff.1 h
  exact ⟨rfl, ⟨Int.le_refl _, (ptB_iff.1 h3).2⟩, rfl, fun k hk => ⟨Int.le_refl _, (ptB_iff.1 (h5 _ (getD_mem hk))).2⟩⟩
theorem moreC_refl {t : Int} {c : Crd} (h : crdB t c = true) : MoreC c c := by
  obtain ⟨_, b2, _, b4⟩ := crdB_parts h
  exact ⟨rfl, ⟨Int.le_refl _, (ptB_iff.1 b2).2⟩, rfl, fun k hk => moreS_refl (b4 _ (getD_mem hk))⟩
theorem moreN_refl {n : Nat} {t : Int} {i : Nat} {x : Nod} (h : nodB n t i x = true) : MoreN x x := by
  refine ⟨rfl, rfl, rfl, rfl, fun ht => ⟨Int.le_refl _, ?_⟩, fun _ => rfl⟩
  rw [nodB_leaf ht] at h
  simp only [Bool.and_eq_true] at h
  exact (ptB_iff.1 h.2).2
theorem moreT_refl {tr : Int} {t : Tre} (h : treB tr t = true) : MoreT t t := by
  obtain ⟨_, _, b3⟩ := treB_parts h
  exact ⟨rfl, rfl, fun k hk => moreN_refl (b3 k hk)⟩
theorem upL_refl {t : Int} {cl : List CrdD} (h : ∀ x ∈ cl, crdB t x.v = true) : UpL cl cl := ⟨rfl, fun _ hi _ => ⟨moreC_refl (h _ (List.getElem_mem hi)), rfl⟩⟩
theorem upT_refl {tr : Int} {tl : List TreD} (h : ∀ x ∈ tl, treB tr x.v = true) : UpT tl tl := ⟨rfl, fun _ hi _ => ⟨moreT_refl (h _ (List.getElem_mem hi)), rfl⟩⟩
theorem UpL.set {cl cl' : List CrdD} (h : UpL cl cl') {i : Nat} (hi : i < cl'.length) {y : CrdD} (hy : ∀ x, MoreC x cl'[i].v → MoreC x y.v) (hS : y.S = cl'[i].S) : UpL cl (cl'.set i y) := by
  refine ⟨by rw [List.length_set]; exact h.1, fun j hj hj' => ?_⟩
  have hj2 : j < cl'.length := by simpa using hj'
  have h2 := h.2 j hj hj2
  rw [List.getElem_set]
  split
  · rename_i e; subst e
    exact ⟨hy _ h2.1, hS.trans h2.2⟩
  · exact h2
theorem UpT.set {tl tl' : List TreD} (h : UpT tl tl') {i : Nat} (hi : i < tl'.length) {y : TreD} (hy : ∀ x, MoreT x tl'[i].v → MoreT x y.v) (hT : y.T = tl'[i].T) : UpT tl (tl'.set i y) := by
  refine ⟨by rw [List.length_set]; exact h.1, fun j hj hj' => ?_⟩
  have hj2 : j < tl'.length := by simpa using hj'
  have h2 := h.2 j hj hj2
  rw [List.getElem_set]
  split
  · rename_i e; subst e
    exact ⟨hy _ h2.1, hT.trans h2.2⟩
  · exact h2
theorem getD_set {α : Type} (l : List α) (d y : α) (i k : Nat) (hi : i < l.length) : (l.set i y).getD k d = if i = k then y else l.getD k d := by
  simp only [List.getD_eq_getElem?_getD, List.getElem?_set]
  split
  · rename_i e; subst e; simp
  · rfl
/-- A greater base. -/
theorem moreC_base {x : Crd} {c : CrdD} {v : Int} (h1 : c.base ≤ v) (h2 : v ≤ 1000000) (h : MoreC x c.v) : MoreC x (CrdD.v { c with base := v }) := ⟨h.1, ⟨Int.le_trans h.2.1.1 h1, h2⟩, h.2.2⟩
theorem moreC_scale {x : Crd} {c : CrdD} {k : Nat} {y : SclD} (hk : k < c.scales.length) (hy : ∀ s, MoreS s c.scales[k].v → MoreS s y.v) (h : MoreC x c.v) : MoreC x (CrdD.v { c with scales := c.scales.set k y }) := by
  obtain ⟨h1, h2, h3, h4⟩ := h
  refine ⟨h1, h2, ?_, fun q hq => ?_⟩
  · show ((c.scales.set k y).map SclD.v).length = _
    rw [← h3]; simp [CrdD.v]
  · have h5 := h4 q hq
    show MoreS _ (((c.scales.set k y).map SclD.v).getD q default)
    rw [List.map_set, getD_set _ _ _ _ _ (by simpa using hk)]
    split
    · rename_i e; subst e
      refine hy _ ?_
      have e : (CrdD.v c).scales.getD k default = c.scales[k].v := by
        show (c.scales.map SclD.v).getD k default = _
        rw [getD_lt _ _ (by simpa using hk), List.getElem_map]
      rw [← e]
      exact h5
    · exact h5
theorem moreS_non {s : Scl} {y : SclD} {v : Int} (h1 : y.v.non ≤ v) (h2 : v ≤ 1000000) (h : MoreS s y.v) : MoreS s (SclD.v { y with v := { y.v with non := v } }) := ⟨h.1, ⟨Int.le_trans h.2.1.1 h1, h2⟩, h.2.2⟩
theorem moreS_pts {s : Scl} {y : SclD} {j : Nat} {v : Int} (hj : j < y.v.pts.length) (h1 : y.v.pts[j] ≤ v) (h2 : v ≤ 1000000) (h : MoreS s y.v) : MoreS s (SclD.v { y with v := { y.v with pts := y.v.pts.set j v } }) := by
  obtain ⟨h3, h4, h5, h6⟩ := h
  refine ⟨h3, h4, by rw [List.length_set]; exact h5, fun q hq => ?_⟩
  have h7 := h6 q hq
  show _ ≤ (y.v.pts.set j v).getD q 0 ∧ (y.v.pts.set j v).getD q 0 ≤ _
  rw [getD_set _ _ _ _ _ hj]
  split
  · rename_i e; subst e
    rw [getD_lt y.v.pts _ hj] at h7
    exact ⟨Int.le_trans h7.1 h1, h2⟩
  · exact h7
theorem moreT_node {x : Tre} {t : TreD} {k : Nat} {v : Int} (hk : k < t.v.nodes.length) (hl : t.v.nodes[k].tr = -1) (h1 : t.v.nodes[k].pts ≤ v) (h2 : v ≤ 1000000) (h : MoreT x t.v) : MoreT x (TreD.v { t with v := { t.v with nodes := t.v.nodes.set k { t.v.nodes[k] with pts := v } } }) := by
  obtain ⟨h3, h4, h5⟩ := h
  refine ⟨h3, by rw [List.length_set]; exact h4, fun q hq => ?_⟩
  have h6 := h5 q hq
  show MoreN _ ((t.v.nodes.set k { t.v.nodes[k] with pts := v }).getD q default)
  rw [getD_set _ _ _ _ _ hk]
  split
  · rename_i e; subst e
    rw [getD_lt t.v.nodes _ hk] at h6
    obtain ⟨g1, g2, g3, g4, g5, g6⟩ := h6
    exact ⟨g1, g2, g3, g4, fun ht => ⟨Int.le_trans (g5 ht).1 h1, h2⟩, fun ht => absurd (g1.symm.trans hl) ht⟩
  · exact h6
/-- The whole: more points. -/
theorem moreM_up {traits need : Int} {cl cl' : List CrdD} {tl tl' : List TreD} (hc : UpL cl cl') (ht : UpT tl tl') : MoreM ⟨traits, cl.map CrdD.v, tl.map TreD.v, need⟩ ⟨traits, cl'.map CrdD.v, tl'.map TreD.v, need⟩ := by
  refine ⟨rfl, rfl, by simpa using hc.1, by simpa using ht.1, fun k hk => ?_, fun k hk => ?_⟩
  · have hk1 : k < cl.length := by simpa using hk
    have hk2 : k < cl'.length := by have := hc.1; omega
    show MoreC ((cl.map CrdD.v).getD k default) ((cl'.map CrdD.v).getD k default)
    rw [getD_lt _ _ (by simpa using hk1), getD_lt _ _ (by simpa using hk2), List.getElem_map, List.getElem_map]
    exact (hc.2 k hk1 hk2).1
  · have hk1 : k < tl.length := by simpa using hk
    have hk2 : k < tl'.length := by have := ht.1; omega
    show MoreT ((tl.map TreD.v).getD k default) ((tl'.map TreD.v).getD k default)
    rw [getD_lt _ _ (by simpa using hk1), getD_lt _ _ (by simpa using hk2), List.getElem_map, List.getElem_map]
    exact (ht.2 k hk1 hk2).1
/-- A number drawn, put upon points. -/
theorem bump {b a : Int} (h1 : -1000000 ≤ b) (h2 : b ≤ 1000000) (_ha : 0 ≤ a) : b ≤ b + a % (1000000 - b + 1) ∧ b + a % (1000000 - b + 1) ≤ 1000000 := by
  have := Int.emod_nonneg a (b := 1000000 - b + 1) (by omega)
  have := Int.emod_lt_of_pos a (b := 1000000 - b + 1) (by omega)
  omega

theorem flat_same {α : Type} {f : α → List Value} : ∀ (l : List α) (k : Nat) (h : k < l.length) (y : α), f y = f l[k] → (l.set k y).flatMap f = l.flatMap f
  | x :: l, 0, _, y, e => by
    show f y ++ l.flatMap f = f x ++ l.flatMap f
    rw [e]; rfl
  | x :: l, k + 1, h, y, e => by
    show f x ++ (l.set k y).flatMap f = f x ++ l.flatMap f
    rw [flat_same l k (by simpa using h) y e]

/-! The stores. -/
section
variable {w : World} {lo p q r hi : Nat} {traits need : Int} {cl : List CrdD} {tl : List TreD} {C T : Option Addr} {c t : Nat}
theorem MdlN.pq (h : MdlN w lo p q r hi ⟨traits, cl, C, c, tl, T, t, need⟩) : lo ≤ p ∧ p ≤ q ∧ q ≤ r ∧ r ≤ hi := ⟨h.lop, h.eachC.le, h.qr, h.eachT.le⟩
/-- The cards' row. -/
theorem MdlN.crow (h : MdlN w lo p q r hi ⟨traits, cl, C, c, tl, T, t, need⟩) {i : Nat} (hi' : i < cl.length) :
    ∃ g, C = some ⟨g, 0, none⟩ ∧ lo ≤ g ∧ g < p ∧ g < w.heap.size ∧ (∀ j, j < 3 → w.cell? ⟨g, i * 3 + j, none⟩ = (crdC cl[i])[j]?) ∧ (∀ j, w.frozen? ⟨g, j, none⟩ = false) ∧
      ∀ v : Int, MdlN (w.setCell ⟨g, i * 3 + 1, none⟩ (.int .i64 v)) lo p q r hi ⟨traits, cl.set i { cl[i] with base := v }, C, c, tl, T, t, need⟩ := by
  obtain ⟨g, cap, hvv, hgb, hglt⟩ := h.cards.own.form (show 0 < cl.length by omega)
  simp only [Value.slice.injEq, true_and] at hvv
  obtain ⟨rfl, rfl⟩ := hvv
  have hgp : g < p := h.cards.lt g rfl
  obtain ⟨h1, h2, h3, h4⟩ := h.pq
  refine ⟨g, rfl, hgb, hgp, hglt, fun j hj => ?_, h.cards.own.frozenAt, fun v => ?_⟩
  · rw [h.cards.own.cellAt (i * 3 + j) (by show i * 3 + j < cl.length * 3; omega)]
    exact flat_get crdC_len cl i hi' j hj
  · have hF : Fr (fun b => b ≠ g) w (w.setCell ⟨g, i * 3 + 1, none⟩ (.int .i64 v)) := Fr.set (p := ⟨g, i * 3 + 1, none⟩) (fun e => e rfl) _
    refine ⟨?_, ?_, h.trees.fr hF (fun b _ _ => by omega), tres_fr h.eachT hF (fun b _ _ => by omega), h.lop, h.qr⟩
    · have e := flat_set crdC_len cl i hi' { cl[i] with base := v } 1 (.int .i64 v) (by omega) rfl
      have h5 := (h.cards.own.stored (i * 3 + 1) (.int .i64 v)).1
      dsimp only at h5 ⊢
      rw [← e] at h5
      simp only [List.length_set]
      exact ⟨h5, h.cards.lt⟩
    · obtain ⟨a, b, g1, g2, g3, g4, g5⟩ := h.eachC.put hi'
      refine g5 _ _ ?_ fun a' b' x _ ha hb hx => hx.fr hF fun b _ _ => by omega
      exact (g4.fr hF fun b _ _ => by omega : CrdN _ a b cl[i])
/-- A card's scales. -/
theorem MdlN.srow (h : MdlN w lo p q r hi ⟨traits, cl, C, c, tl, T, t, need⟩) {i k : Nat} (hi' : i < cl.length) (hk : k < cl[i].scales.length) :
    ∃ g, cl[i].S = some ⟨g, 0, none⟩ ∧ p ≤ g ∧ g < q ∧ g < w.heap.size ∧ (∀ j, j < 3 → w.cell? ⟨g, k * 3 + j, none⟩ = (sclC cl[i].scales[k])[j]?) ∧ (∀ j, w.frozen? ⟨g, j, none⟩ = false) ∧
      ∀ v : Int, MdlN (w.setCell ⟨g, k * 3 + 2, none⟩ (.int .i64 v)) lo p q r hi ⟨traits, cl.set i { cl[i] with scales := cl[i].scales.set k { cl[i].scales[k] with v := { cl[i].scales[k].v with non := v } } }, C, c, tl, T, t, need⟩ := by
  obtain ⟨h1, h2, h3, h4⟩ := h.pq
  obtain ⟨a, b, g1, g2, g3, ⟨m, m1, m2, m3⟩, g5⟩ := h.eachC.put hi'
  dsimp only at *
  generalize hy : cl[i] = y at *
  obtain ⟨wt, base, sl, S, s⟩ := y
  dsimp only at *
  have hk' : k < sl.length := hk
  obtain ⟨g, cap, hvv, hgb, hglt⟩ := m2.own.form (show 0 < sl.length by omega)
  simp only [Value.slice.injEq, true_and] at hvv
  obtain ⟨rfl, rfl⟩ := hvv
  have hgm : g < m := m2.lt g rfl
  have hmb := m3.le
  refine ⟨g, rfl, by omega, by omega, hglt, fun j hj => ?_, m2.own.frozenAt, fun v => ?_⟩
  · rw [m2.own.cellAt (k * 3 + j) (by omega)]
    exact flat_get sclC_len sl k hk j hj
  · have hF : Fr (fun b => b ≠ g) w (w.setCell ⟨g, k * 3 + 2, none⟩ (.int .i64 v)) := Fr.set (p := ⟨g, k * 3 + 2, none⟩) (fun e => e rfl) _
    refine ⟨?_, ?_, h.trees.fr hF (fun b _ _ => by omega), tres_fr h.eachT hF (fun b _ _ => by omega), h.lop, h.qr⟩
    · have e := flat_same (f := crdC) cl i hi' ⟨wt, base, sl.set k { sl[k] with v := { sl[k].v with non := v } }, some ⟨g, 0, none⟩, s⟩ (by rw [hy]; simp [crdC])
      have h5 := h.cards.fr hF (fun b _ hb => by omega)
      dsimp only at h5 ⊢
      rw [e]
      simp only [List.length_set]
      exact h5
    · refine g5 _ _ ⟨m, m1, ?_, ?_⟩ fun a' b' x _ ha hb hx => hx.fr hF fun b _ _ => by omega
      · have e := flat_set sclC_len sl k hk { sl[k] with v := { sl[k].v with non := v } } 2 (.int .i64 v) (by omega) rfl
        have h5 := (m2.own.stored (k * 3 + 2) (.int .i64 v)).1
        dsimp only at h5 ⊢
        rw [← e] at h5
        simp only [List.length_set]
        exact ⟨h5, m2.lt⟩
      · obtain ⟨a2, b2, n1, n2, n3, n4, n5⟩ := m3.put hk
        refine n5 _ _ ?_ fun a' b' x _ ha hb hx => hx.fr hF fun b _ _ => by omega
        have n6 := n4.fr hF fun b _ _ => by omega
        exact ⟨n6.cuts, n6.pts⟩
/-- A scale's points. -/
theorem MdlN.prow (h : MdlN w lo p q r hi ⟨traits, cl, C, c, tl, T, t, need⟩) {i k j : Nat} (hi' : i < cl.length) (hk : k < cl[i].scales.length) (hj : j < cl[i].scales[k].v.pts.length) :
    ∃ g, cl[i].scales[k].B = some ⟨g, 0, none⟩ ∧ p ≤ g ∧ g < q ∧ g < w.heap.size ∧ w.cell? ⟨g, j, none⟩ = some (.int .i64 cl[i].scales[k].v.pts[j]) ∧ (∀ j, w.frozen? ⟨g, j, none⟩ = false) ∧
      ∀ v : Int, MdlN (w.setCell ⟨g, j, none⟩ (.int .i64 v)) lo p q r hi ⟨traits, cl.set i { cl[i] with scales := cl[i].scales.set k { cl[i].scales[k] with v := { cl[i].scales[k].v with pts := cl[i].scales[k].v.pts.set j v } } }, C, c, tl, T, t, need⟩ := by
  obtain ⟨h1, h2, h3, h4⟩ := h.pq
  obtain ⟨a, b, g1, g2, g3, ⟨m, m1, m2, m3⟩, g5⟩ := h.eachC.put hi'
  obtain ⟨a2, b2, n1, n2, n3, n4, n5⟩ := m3.put hk
  dsimp only at *
  generalize hy : cl[i] = y at *
  obtain ⟨wt, base, sl, S, s⟩ := y
  dsimp only at *
  generalize hz : sl[k] = z at *
  obtain ⟨⟨cuts, pts, non⟩, A, a3, B, b3⟩ := z
  dsimp only at *
  have hj' : j < pts.length := hj
  have hcu := n4.cuts
  have hpt := n4.pts
  dsimp only at hcu hpt
  obtain ⟨g, cap, hvv, hgb, hglt⟩ := hpt.own.form (show 0 < pts.length by omega)
  simp only [Value.slice.injEq, true_and] at hvv
  obtain ⟨rfl, rfl⟩ := hvv
  have hgm : g < b2 := hpt.lt g rfl
  have hmb := m3.le
  refine ⟨g, rfl, by omega, by omega, hglt, ?_, hpt.own.frozenAt, fun v => ?_⟩
  · rw [hpt.own.cellAt j (by omega)]
    have e := flat_get intC_len pts j hj 0 (by omega)
    rw [Nat.mul_one, Nat.add_zero] at e
    rw [e]; rfl
  · have hF : Fr (fun b => b ≠ g) w (w.setCell ⟨g, j, none⟩ (.int .i64 v)) := Fr.set (p := ⟨g, j, none⟩) (fun e => e rfl) _
    refine ⟨?_, ?_, h.trees.fr hF (fun b _ _ => by omega), tres_fr h.eachT hF (fun b _ _ => by omega), h.lop, h.qr⟩
    · have e := flat_same (f := crdC) cl i hi' ⟨wt, base, sl.set k ⟨⟨cuts, pts.set j v, non⟩, A, a3, some ⟨g, 0, none⟩, b3⟩, S, s⟩ (by rw [hy]; simp [crdC])
      have h5 := h.cards.fr hF (fun b _ hb => by omega)
      dsimp only at h5 ⊢
      rw [e]
      simp only [List.length_set]
      exact h5
    · refine g5 _ _ ⟨m, m1, ?_, ?_⟩ fun a' b' x _ ha hb hx => hx.fr hF fun b _ _ => by omega
      · have e := flat_same (f := sclC) sl k hk ⟨⟨cuts, pts.set j v, non⟩, A, a3, some ⟨g, 0, none⟩, b3⟩ (by rw [hz]; simp [sclC])
        have h5 := m2.fr hF (fun b _ hb => by omega)
        dsimp only at h5 ⊢
        rw [e]
        simp only [List.length_set]
        exact h5
      · refine n5 _ _ ⟨?_, ?_⟩ fun a' b' x _ ha hb hx => hx.fr hF fun b _ _ => by omega
        · dsimp only
          rw [List.length_set]
          exact hcu.move (hF.imp (fun b hp e => hp.2.2 (by rw [e]; rfl)))
        · have e := flat_set intC_len pts j hj v 0 (.int .i64 v) (by omega) rfl
          rw [Nat.mul_one, Nat.add_zero] at e
          have h5 := (hpt.own.stored j (.int .i64 v)).1
          dsimp only at h5 ⊢
          rw [← e] at h5
          simp only [List.length_set]
          exact ⟨h5, hpt.lt⟩
/-- The trees' row. -/
theorem MdlN.trow (h : MdlN w lo p q r hi ⟨traits, cl, C, c, tl, T, t, need⟩) {i : Nat} (hi' : i < tl.length) :
    ∃ g, T = some ⟨g, 0, none⟩ ∧ q ≤ g ∧ g < r ∧ g < w.heap.size ∧ (∀ j, j < 2 → w.cell? ⟨g, i * 2 + j, none⟩ = (treC tl[i])[j]?) ∧ (∀ j, w.frozen? ⟨g, j, none⟩ = false) := by
  obtain ⟨g, cap, hvv, hgb, hglt⟩ := h.trees.own.form (show 0 < tl.length by omega)
  simp only [Value.slice.injEq, true_and] at hvv
  obtain ⟨rfl, rfl⟩ := hvv
  refine ⟨g, rfl, hgb, h.trees.lt g rfl, hglt, fun j hj => ?_, h.trees.own.frozenAt⟩
  rw [h.trees.own.cellAt (i * 2 + j) (by show i * 2 + j < tl.length * 2; omega)]
  exact flat_get treC_len tl i hi' j hj
/-- A tree's nodes. -/
theorem MdlN.nrow (h : MdlN w lo p q r hi ⟨traits, cl, C, c, tl, T, t, need⟩) {i k : Nat} (hi' : i < tl.length) (hk : k < tl[i].v.nodes.length) :
    ∃ g, tl[i].T = some ⟨g, 0, none⟩ ∧ r ≤ g ∧ g < hi ∧ g < w.heap.size ∧ (∀ j, j < 5 → w.cell? ⟨g, k * 5 + j, none⟩ = (nodC tl[i].v.nodes[k])[j]?) ∧ (∀ j, w.frozen? ⟨g, j, none⟩ = false) ∧
      ∀ v : Int, MdlN (w.setCell ⟨g, k * 5 + 4, none⟩ (.int .i64 v)) lo p q r hi ⟨traits, cl, C, c, tl.set i { tl[i] with v := { tl[i].v with nodes := tl[i].v.nodes.set k { tl[i].v.nodes[k] with pts := v } } }, T, t, need⟩ := by
  obtain ⟨h1, h2, h3, h4⟩ := h.pq
  obtain ⟨a, b, g1, g2, g3, m2, g5⟩ := h.eachT.put hi'
  dsimp only at *
  generalize hy : tl[i] = y at *
  obtain ⟨⟨wt, nl⟩, S, s⟩ := y
  dsimp only at *
  have m3 : OwnIn w a b 48 5 (.slice S nl.length s) nl.length (nl.flatMap nodC) := m2
  have hk' : k < nl.length := hk
  obtain ⟨g, cap, hvv, hgb, hglt⟩ := m3.own.form (show 0 < nl.length by omega)
  simp only [Value.slice.injEq, true_and] at hvv
  obtain ⟨rfl, rfl⟩ := hvv
  have hgm : g < b := m3.lt g rfl
  refine ⟨g, rfl, by omega, by omega, hglt, fun j hj => ?_, m3.own.frozenAt, fun v => ?_⟩
  · rw [m3.own.cellAt (k * 5 + j) (by omega)]
    exact flat_get nodC_len nl k hk j hj
  · have hF : Fr (fun b => b ≠ g) w (w.setCell ⟨g, k * 5 + 4, none⟩ (.int .i64 v)) := Fr.set (p := ⟨g, k * 5 + 4, none⟩) (fun e => e rfl) _
    refine ⟨h.cards.fr hF (fun b _ _ => by omega), crds_fr h.eachC hF (fun b _ _ => by omega), ?_, ?_, h.lop, h.qr⟩
    · have e := flat_same (f := treC) tl i hi' ⟨⟨wt, nl.set k { nl[k] with pts := v }⟩, some ⟨g, 0, none⟩, s⟩ (by rw [hy]; simp [treC])
      have h5 := h.trees.fr hF (fun b _ hb => by omega)
      dsimp only at h5 ⊢
      rw [e]
      simp only [List.length_set]
      exact h5
    · refine g5 _ _ ?_ fun a' b' x _ ha hb hx => OwnIn.fr hx hF fun b _ _ => by omega
      have e := flat_set nodC_len nl k hk { nl[k] with pts := v } 4 (.int .i64 v) (by omega) rfl
      have h5 := (m3.own.stored (k * 5 + 4) (.int .i64 v)).1
      rw [← e] at h5
      show OwnIn _ a b 48 5 (.slice (some ⟨g, 0, none⟩) (nl.set k _).length s) (nl.set k _).length _
      simp only [List.length_set]
      exact ⟨h5, m3.lt⟩
end
end Go.Proofs.YtpahcbhikmfamaaGreat

namespace Go.Proofs.YtpahcbhikmfamaaGreat
open Go.RowKit Go.Maps

theorem MdlN.fr {P : Nat → Prop} {w w' : World} {lo p q r hi : Nat} {m : MdlD} (h : MdlN w lo p q r hi m) (hF : Fr P w w') (hP : ∀ b, lo ≤ b → b < hi → P b) : MdlN w' lo p q r hi m := by
  have h1 := h.lop
  have h2 := h.eachC.le
  have h3 := h.qr
  have h4 := h.eachT.le
  exact ⟨h.cards.fr hF (fun b _ _ => hP b (by omega) (by omega)), crds_fr h.eachC hF (fun b _ _ => hP b (by omega) (by omega)), h.trees.fr hF (fun b _ _ => hP b (by omega) (by omega)), tres_fr h.eachT hF (fun b _ _ => hP b (by omega) (by omega)), h1, h3⟩
/-- A model's block. -/
def mdlA (m : MdlD) : Array Value := #[.int .i64 m.traits, .slice m.C m.cards.length m.c, .slice m.T m.trees.length m.t, .int .i64 m.need]
/-- The world in the loops: m the law's own argument, m1 the twin as it was, cl and tl as they are. -/
structure MrI (w wr : World) (lo p q r gm : Nat) (m m1 : MdlD) (cl : List CrdD) (tl : List TreD) : Prop where
  bel : Below w.heap.size w wr
  km : Blk wr w.heap.size (mdlA m) 25
  kx : Blk wr gm (mdlA m1) 25
  up : UpL m1.cards cl
  ut : UpT m1.trees tl
  nn : MdlN wr lo p q r gm ⟨m1.traits, cl, m1.C, m1.c, tl, m1.T, m1.t, m1.need⟩
def MrX (w wr : World) (lo p q r gm : Nat) (m m1 : MdlD) : Prop := ∃ cl tl, MrI w wr lo p q r gm m m1 cl tl
def mdlV (m : MdlD) : Mdl := ⟨m.traits, m.cards.map CrdD.v, m.trees.map TreD.v, m.need⟩
section
variable {w wr : World} {lo p q r gm : Nat} {m m1 : MdlD} {cl : List CrdD} {tl : List TreD}
theorem MrI.ok (h : MrI w wr lo p q r gm m m1 cl tl) (hok : mdlB (mdlV m1) = true) : mdlB ⟨m1.traits, cl.map CrdD.v, tl.map TreD.v, m1.need⟩ = true := (more_model (moreM_up h.up h.ut) hok).1
theorem MrI.crd (h : MrI w wr lo p q r gm m m1 cl tl) (hok : mdlB (mdlV m1) = true) {i : Nat} (hi : i < cl.length) : crdB m1.traits cl[i].v = true := (mdlB_parts (h.ok hok)).2.2.2.2.1 _ (List.mem_map_of_mem (List.getElem_mem hi))
theorem MrI.tre (h : MrI w wr lo p q r gm m m1 cl tl) (hok : mdlB (mdlV m1) = true) {i : Nat} (hi : i < tl.length) : treB m1.traits tl[i].v = true := (mdlB_parts (h.ok hok)).2.2.2.2.2 _ (List.mem_map_of_mem (List.getElem_mem hi))
theorem MrI.scl (h : MrI w wr lo p q r gm m m1 cl tl) (hok : mdlB (mdlV m1) = true) {i k : Nat} (hi : i < cl.length) (hk : k < cl[i].scales.length) : sclB cl[i].scales[k].v = true := (crdB_parts (h.crd hok hi)).2.2.2 _ (List.mem_map_of_mem (List.getElem_mem hk))
/-- A store above w, into no model's block. -/
theorem MrI.store (h : MrI w wr lo p q r gm m m1 cl tl) (hlo : w.heap.size < lo) {g o : Nat} {v : Value} {cl' : List CrdD} {tl' : List TreD} (hg1 : lo ≤ g) (hg2 : g < gm) (hup : UpL m1.cards cl') (hut : UpT m1.trees tl') (hn : MdlN (wr.setCell ⟨g, o, none⟩ v) lo p q r gm ⟨m1.traits, cl', m1.C, m1.c, tl', m1.T, m1.t, m1.need⟩) : MrX w (wr.setCell ⟨g, o, none⟩ v) lo p q r gm m m1 :=
  ⟨cl', tl', h.bel.setCell (p := ⟨g, o, none⟩) (by show w.heap.size ≤ g; omega) v, h.km.far (p := ⟨g, o, none⟩) (by show w.heap.size ≠ g; omega) v, h.kx.far (p := ⟨g, o, none⟩) (by show gm ≠ g; omega) v, hup, hut, hn⟩
theorem MrX.kxc (h : MrX w wr lo p q r gm m m1) (j : Nat) : wr.cell? ⟨gm, j, none⟩ = (mdlA m1)[j]? := by
  obtain ⟨_, _, h⟩ := h
  exact h.kx.cell j
theorem MrX.bel (h : MrX w wr lo p q r gm m m1) : Below w.heap.size w wr := by
  obtain ⟨_, _, h⟩ := h
  exact h.bel
theorem MrX.km (h : MrX w wr lo p q r gm m m1) : Blk wr w.heap.size (mdlA m) 25 := by
  obtain ⟨_, _, h⟩ := h
  exact h.km
theorem MrX.drew (h : MrX w wr lo p q r gm m m1) : MrX w wr.drew lo p q r gm m m1 := by
  obtain ⟨cl, tl, h⟩ := h
  exact ⟨cl, tl, h.bel.drew, h.km, h.kx, h.up, h.ut, h.nn.fr (Fr.below (P := fun _ => True) (Below.refl _ _).drew) (fun _ _ _ => trivial)⟩
theorem MrX.kx_ (h : MrX w wr lo p q r gm m m1) : Blk wr gm (mdlA m1) 25 := by
  obtain ⟨_, _, h⟩ := h
  exact h.kx
theorem MrX.gl (h : MrX w wr lo p q r gm m m1) : gm < wr.heap.size := h.kx_.lt
/-- Before the loops. -/
theorem mr_start {w4 : World} (hM : mdlB (mdlV m) = true) (e1 : m1.traits = m.traits) (e2 : m1.need = m.need) (hc : m1.cards.map CrdD.v = m.cards.map CrdD.v) (ht : m1.trees.map TreD.v = m.trees.map TreD.v) (hn : MdlN w4 lo p q r w4.heap.size m1) (hb : Below w.heap.size w w4) (hk : Blk w4 w.heap.size (mdlA m) 25) :
    mdlV m1 = mdlV m ∧ MrX w (w4.alloc (.cells (mdlA m1) 25)) lo p q r w4.heap.size m m1 := by
  have e : mdlV m1 = mdlV m := by unfold mdlV; rw [e1, e2, hc, ht]
  refine ⟨e, m1.cards, m1.trees, hb.alloc hb.size _, hk.alloc _, Blk.new _ _ _, ?_, ?_, ?_⟩
  · exact upL_refl (t := m.traits) fun x hx => (mdlB_parts hM).2.2.2.2.1 _ (by show _ ∈ m.cards.map CrdD.v; rw [← hc]; exact List.mem_map_of_mem hx)
  · exact upT_refl (tr := m.traits) fun x hx => (mdlB_parts hM).2.2.2.2.2 _ (by show _ ∈ m.trees.map TreD.v; rw [← ht]; exact List.mem_map_of_mem hx)
  · exact hn.fr (Fr.below (P := fun _ => True) ((Below.refl _ _).alloc (Nat.le_refl _) _)) (fun _ _ _ => trivial)
/-- A card. -/
theorem MrX.card (h : MrX w wr lo p q r gm m m1) (hok : mdlB (mdlV m1) = true) (hlo : w.heap.size < lo) {i N : Nat} (hN : (N : Int) = m1.traits) (hi : i < m1.cards.length) :
    ∃ g S s bs, m1.C = some ⟨g, 0, none⟩ ∧ wr.cell? ⟨g, i * 3 + 1, none⟩ = some (.int .i64 bs) ∧ wr.cell? ⟨g, i * 3 + 2, none⟩ = some (.slice S N s) ∧ wr.frozen? ⟨g, i * 3 + 1, none⟩ = false ∧ (-1000000 ≤ bs ∧ bs ≤ 1000000) ∧
      ∀ v : Int, bs ≤ v → v ≤ 1000000 → MrX w (wr.setCell ⟨g, i * 3 + 1, none⟩ (.int .i64 v)) lo p q r gm m m1 ∧ (wr.setCell ⟨g, i * 3 + 1, none⟩ (.int .i64 v)).cell? ⟨g, i * 3 + 2, none⟩ = some (.slice S N s) := by
  obtain ⟨cl, tl, h⟩ := h
  have hil : i < cl.length := by have := h.up.1; omega
  obtain ⟨g, hC, h1, h2, h3, h4, h5, h6⟩ := h.nn.crow hil
  obtain ⟨o1, o2, o3, o4⟩ := h.nn.pq
  obtain ⟨c1, c2, c3, c4⟩ := crdB_parts (h.crd hok hil)
  have hNs : cl[i].scales.length = N := by
    simp only [CrdD.v, List.length_map] at c3
    omega
  have h8 := h4 2 (by omega)
  have h9 := h4 1 (by omega)
  refine ⟨g, cl[i].S, cl[i].s, cl[i].base, hC, h9, by rw [h8, ← hNs]; rfl, h5 _, ptB_iff.1 c2, fun v hv1 hv2 => ⟨?_, ?_⟩⟩
  · exact h.store hlo (by omega) (by omega) (h.up.set hil (fun x hx => moreC_base hv1 hv2 hx) rfl) h.ut (h6 v)
  · exact (World.cell?_setCell_other _ ⟨g, i * 3 + 1, none⟩ ⟨g, i * 3 + 2, none⟩ _ (by simp)).trans (by rw [h8, ← hNs]; rfl)
/-- A card's scale. -/
theorem MrX.scale (h : MrX w wr lo p q r gm m m1) (hok : mdlB (mdlV m1) = true) (hlo : w.heap.size < lo) {i k N g : Nat} (hN : (N : Int) = m1.traits) (hi : i < m1.cards.length) (hk : k < N) (hC : m1.C = some ⟨g, 0, none⟩) :
    ∃ gs s no, wr.cell? ⟨g, i * 3 + 2, none⟩ = some (.slice (some ⟨gs, 0, none⟩) N s) ∧ m1.cards[i].S = some ⟨gs, 0, none⟩ ∧ wr.cell? ⟨gs, k * 3 + 2, none⟩ = some (.int .i64 no) ∧ wr.frozen? ⟨gs, k * 3 + 2, none⟩ = false ∧ (-1000000 ≤ no ∧ no ≤ 1000000) ∧
      ∀ v : Int, no ≤ v → v ≤ 1000000 → MrX w (wr.setCell ⟨gs, k * 3 + 2, none⟩ (.int .i64 v)) lo p q r gm m m1 := by
  obtain ⟨cl, tl, h⟩ := h
  have hil : i < cl.length := by have := h.up.1; omega
  obtain ⟨c1, c2, c3, c4⟩ := crdB_parts (h.crd hok hil)
  have hNs : cl[i].scales.length = N := by
    simp only [CrdD.v, List.length_map] at c3
    omega
  have hkl : k < cl[i].scales.length := by omega
  obtain ⟨gs, hS, h1, h2, h3, h4, h5, h6⟩ := h.nn.srow hil hkl
  obtain ⟨g', hC', a1, a2, a3, a4, a5, a6⟩ := h.nn.crow hil
  obtain ⟨o1, o2, o3, o4⟩ := h.nn.pq
  obtain rfl : g' = g := by have h8 := hC'.symm.trans hC; simpa using h8
  have hb := ptB_iff.1 (sclB_iff.1 (h.scl hok hil hkl)).2.2.1
  refine ⟨gs, cl[i].s, _, ?_, (h.up.2 i hi hil).2.symm.trans hS, h4 2 (by omega), h5 _, hb, fun v hv1 hv2 => ?_⟩
  · rw [a4 2 (by omega), ← hS, ← hNs]; rfl
  · exact h.store hlo (by omega) (by omega) (h.up.set hil (fun x hx => moreC_scale hkl (fun s hs => moreS_non hv1 hv2 hs) hx) rfl) h.ut (h6 v)
/-- The number of a scale's points. -/
def npM (m : MdlD) (i k : Nat) : Nat := (((mdlV m).cards.getD i default).scales.getD k default).pts.length
theorem npM_le (hok : mdlB (mdlV m1) = true) {i k N : Nat} (hN : (N : Int) = m1.traits) (hi : i < m1.cards.length) (hk : k < N) : npM m1 i k ≤ 4 := by
  have h1 : crdB m1.traits ((mdlV m1).cards.getD i default) = true := (mdlB_parts hok).2.2.2.2.1 _ (getD_mem (by simpa [mdlV] using hi))
  obtain ⟨_, _, c3, c4⟩ := crdB_parts h1
  obtain ⟨b1, b2, _⟩ := sclB_iff.1 (c4 _ (getD_mem (d := default) (k := k) (by omega)))
  unfold npM
  omega
theorem MrI.np (h : MrI w wr lo p q r gm m m1 cl tl) {i k : Nat} (hi : i < m1.cards.length) (hil : i < cl.length) (hkl : k < cl[i].scales.length) : cl[i].scales[k].v.pts.length = npM m1 i k := by
  have h1 := (h.up.2 i hi hil).1
  have e1 : (mdlV m1).cards.getD i default = m1.cards[i].v := by
    show (m1.cards.map CrdD.v).getD i default = _
    rw [getD_lt _ _ (by simpa using hi), List.getElem_map]
  have e2 : cl[i].v.scales.getD k default = cl[i].scales[k].v := by
    show (cl[i].scales.map SclD.v).getD k default = _
    rw [getD_lt _ _ (by simpa using hkl), List.getElem_map]
  obtain ⟨_, _, h3, h4⟩ := h1
  have h5 := (h4 k (by rw [← h3]; simpa [CrdD.v] using hkl)).2.2.1
  unfold npM
  rw [e1, ← h5, e2]
/-- A scale's point. -/
theorem MrX.point (h : MrX w wr lo p q r gm m m1) (hok : mdlB (mdlV m1) = true) (hlo : w.heap.size < lo) {i k j N gs : Nat} (hN : (N : Int) = m1.traits) (hi : i < m1.cards.length) (hk : k < N) (hS : m1.cards[i].S = some ⟨gs, 0, none⟩) (hj : j < npM m1 i k) :
    ∃ gb b pt, wr.cell? ⟨gs, k * 3 + 1, none⟩ = some (.slice (some ⟨gb, 0, none⟩) (npM m1 i k) b) ∧ wr.cell? ⟨gb, j, none⟩ = some (.int .i64 pt) ∧ wr.frozen? ⟨gb, j, none⟩ = false ∧ (-1000000 ≤ pt ∧ pt ≤ 1000000) ∧
      ∀ v : Int, pt ≤ v → v ≤ 1000000 → MrX w (wr.setCell ⟨gb, j, none⟩ (.int .i64 v)) lo p q r gm m m1 := by
  obtain ⟨cl, tl, h⟩ := h
  have hil : i < cl.length := by have := h.up.1; omega
  obtain ⟨c1, c2, c3, c4⟩ := crdB_parts (h.crd hok hil)
  have hNs : cl[i].scales.length = N := by
    simp only [CrdD.v, List.length_map] at c3
    omega
  have hkl : k < cl[i].scales.length := by omega
  have hnp := h.np hi hil hkl
  have hjl : j < cl[i].scales[k].v.pts.length := by omega
  obtain ⟨gs', hS', a1, a2, a3, a4, a5, a6⟩ := h.nn.srow hil hkl
  obtain ⟨gb, hB, h1, h2, h3, h4, h5, h6⟩ := h.nn.prow hil hkl hjl
  obtain ⟨o1, o2, o3, o4⟩ := h.nn.pq
  obtain rfl : gs' = gs := by have h8 := hS'.symm.trans ((h.up.2 i hi hil).2.trans hS); simpa using h8
  have hb := ptB_iff.1 ((sclB_iff.1 (h.scl hok hil hkl)).2.2.2.2 _ (List.getElem_mem hjl))
  refine ⟨gb, cl[i].scales[k].b, _, ?_, h4, h5 _, hb, fun v hv1 hv2 => ?_⟩
  · rw [a4 1 (by omega), ← hB, ← hnp]; rfl
  · exact h.store hlo (by omega) (by omega) (h.up.set hil (fun x hx => moreC_scale hkl (fun s hs => moreS_pts hjl hv1 hv2 hs) hx) rfl) h.ut (h6 v)
/-- A scale's row of points. -/
theorem MrX.points (h : MrX w wr lo p q r gm m m1) (hok : mdlB (mdlV m1) = true) {i k N gs : Nat} (hN : (N : Int) = m1.traits) (hi : i < m1.cards.length) (hk : k < N) (hS : m1.cards[i].S = some ⟨gs, 0, none⟩) :
    ∃ B b, wr.cell? ⟨gs, k * 3 + 1, none⟩ = some (.slice B (npM m1 i k) b) := by
  obtain ⟨cl, tl, h⟩ := h
  have hil : i < cl.length := by have := h.up.1; omega
  obtain ⟨c1, c2, c3, c4⟩ := crdB_parts (h.crd hok hil)
  have hNs : cl[i].scales.length = N := by
    simp only [CrdD.v, List.length_map] at c3
    omega
  have hkl : k < cl[i].scales.length := by omega
  have hnp := h.np hi hil hkl
  obtain ⟨gs', hS', a1, a2, a3, a4, a5, a6⟩ := h.nn.srow hil hkl
  obtain rfl : gs' = gs := by have h8 := hS'.symm.trans ((h.up.2 i hi hil).2.trans hS); simpa using h8
  refine ⟨cl[i].scales[k].B, cl[i].scales[k].b, ?_⟩
  rw [a4 1 (by omega), ← hnp]; rfl
/-- The number of a tree's nodes. -/
def nnM (m : MdlD) (i : Nat) : Nat := ((mdlV m).trees.getD i default).nodes.length
theorem nnM_le (hok : mdlB (mdlV m1) = true) {i : Nat} (hi : i < m1.trees.length) : nnM m1 i ≤ 7 := by
  have h1 : treB m1.traits ((mdlV m1).trees.getD i default) = true := (mdlB_parts hok).2.2.2.2.2 _ (getD_mem (by simpa [mdlV] using hi))
  have := (treB_parts h1).2.1
  unfold nnM
  omega
theorem MrI.nn_ (h : MrI w wr lo p q r gm m m1 cl tl) {i : Nat} (hi : i < m1.trees.length) (hil : i < tl.length) : tl[i].v.nodes.length = nnM m1 i := by
  have e1 : (mdlV m1).trees.getD i default = m1.trees[i].v := by
    show (m1.trees.map TreD.v).getD i default = _
    rw [getD_lt _ _ (by simpa using hi), List.getElem_map]
  unfold nnM
  rw [e1, ← (h.ut.2 i hi hil).1.2.1]
/-- A tree. -/
theorem MrX.tree (h : MrX w wr lo p q r gm m m1) {i : Nat} (hi : i < m1.trees.length) : ∃ g T s, m1.T = some ⟨g, 0, none⟩ ∧ wr.cell? ⟨g, i * 2 + 1, none⟩ = some (.slice T (nnM m1 i) s) := by
  obtain ⟨cl, tl, h⟩ := h
  have hil : i < tl.length := by have := h.ut.1; omega
  have hnn := h.nn_ hi hil
  obtain ⟨g, hT, a1, a2, a3, a4, a5⟩ := h.nn.trow hil
  exact ⟨g, tl[i].T, tl[i].t, hT, by rw [a4 1 (by omega), ← hnn]; rfl⟩
/-- A tree's node. -/
theorem MrX.node (h : MrX w wr lo p q r gm m m1) (hok : mdlB (mdlV m1) = true) (hlo : w.heap.size < lo) {i k g : Nat} (hi : i < m1.trees.length) (hk : k < nnM m1 i) (hT : m1.T = some ⟨g, 0, none⟩) :
    ∃ gt s tr pt, wr.cell? ⟨g, i * 2 + 1, none⟩ = some (.slice (some ⟨gt, 0, none⟩) (nnM m1 i) s) ∧ wr.cell? ⟨gt, k * 5, none⟩ = some (.int .i64 tr) ∧ wr.cell? ⟨gt, k * 5 + 4, none⟩ = some (.int .i64 pt) ∧ wr.frozen? ⟨gt, k * 5 + 4, none⟩ = false ∧
      (tr = -1 → (-1000000 ≤ pt ∧ pt ≤ 1000000) ∧ ∀ v : Int, pt ≤ v → v ≤ 1000000 → MrX w (wr.setCell ⟨gt, k * 5 + 4, none⟩ (.int .i64 v)) lo p q r gm m m1) := by
  obtain ⟨cl, tl, h⟩ := h
  have hil : i < tl.length := by have := h.ut.1; omega
  have hnn := h.nn_ hi hil
  have hkl : k < tl[i].v.nodes.length := by omega
  obtain ⟨g', hT', a1, a2, a3, a4, a5⟩ := h.nn.trow hil
  obtain ⟨gt, hG, h1, h2, h3, h4, h5, h6⟩ := h.nn.nrow hil hkl
  obtain ⟨o1, o2, o3, o4⟩ := h.nn.pq
  obtain rfl : g' = g := by have h8 := hT'.symm.trans hT; simpa using h8
  refine ⟨gt, tl[i].t, tl[i].v.nodes[k].tr, tl[i].v.nodes[k].pts, by rw [a4 1 (by omega), ← hG, ← hnn]; rfl, h4 0 (by omega), h4 4 (by omega), h5 _, fun ht => ⟨?_, fun v hv1 hv2 => ?_⟩⟩
  · have hb := (treB_parts (h.tre hok hil)).2.2 k hkl
    rw [getD_lt _ _ hkl, nodB_leaf ht] at hb
    simp only [Bool.and_eq_true] at hb
    exact ptB_iff.1 hb.2
  · exact h.store hlo (by omega) (by omega) h.up (h.ut.set hil (fun x hx => moreT_node hkl ht hv1 hv2 hx) rfl) (h6 v)
end
end Go.Proofs.YtpahcbhikmfamaaGreat

namespace Go.Proofs.YtpahcbhikmfamaaGreat
open Go.RowKit Go.Maps

theorem valid_le {m : MdlD} (h : mdlB (mdlV m) = true) : MdlLe m := by
  obtain ⟨h1, _, h3, h4, h5, h6⟩ := mdlB_parts h
  simp only [mdlV, List.length_map] at h1 h3 h4
  have hc : ∀ c ∈ m.cards, crdB m.traits c.v = true := fun c hc => h5 _ (List.mem_map_of_mem hc)
  refine ⟨by omega, by omega, fun c hx => ?_, fun c hx s hs => ?_, fun t hx => ?_⟩
  · have := (crdB_parts (hc c hx)).2.2.1
    simp only [CrdD.v, List.length_map] at this
    omega
  · obtain ⟨b1, b2, _⟩ := sclB_iff.1 ((crdB_parts (hc c hx)).2.2.2 _ (List.mem_map_of_mem hs))
    exact ⟨by omega, by omega⟩
  · have := (treB_parts (h6 _ (List.mem_map_of_mem hx))).2.1
    omega
/-- What Score says of a valid model, at this world. -/
def ScP (W : World) (m : MdlD) (x : List Int) (X : Option Addr) (xc : Nat) (n : Int) (yes : Bool) : Prop :=
  Calls Tryz.prog 6 #[.agg #[.int .i64 m.traits, .slice m.C m.cards.length m.c, .slice m.T m.trees.length m.t, .int .i64 m.need], .slice X x.length xc] W fun e w' => e = .returned (.tuple #[.int .i64 n, .bool yes, .int .i64 0]) ∧ Below W.heap.size W w'
theorem score_ok {m : MdlD} {x : List Int} {X : Option Addr} {xc : Nat} {W : World} (hM : mdlB (mdlV m) = true) (hv : valsB m.traits x = true) (h : MdlAt W W.heap.size m) (hx : IntsAt W W.heap.size X x) : ScP W m x X xc (scoreM (mdlV m) x) (decide (1000 * m.need ≤ scoreM (mdlV m) x)) := by
  obtain ⟨traits, cl, C, c, tl, T, t, need⟩ := m
  have htr := (mdlB_parts hM).1
  have hvl : (x.length : Int) = traits := by unfold valsB at hv; simp only [Bool.and_eq_true, decide_eq_true_eq] at hv; exact hv.1
  have hf : forE ⟨traits, cl.map CrdD.v, tl.map TreD.v, need⟩ x = 0 := by
    unfold forE
    rw [if_pos (show mdlB ⟨traits, cl.map CrdD.v, tl.map TreD.v, need⟩ = true from hM)]
    exact if_pos hv
  have h1 := scoreP_all traits need cl tl C T c t x X xc W h (valid_le hM) hx (by simp only [mdlV] at htr; omega)
  unfold scN scY at h1
  rw [hf, if_pos rfl, if_pos rfl] at h1
  exact h1
/-- More points: no score is less. -/
theorem MrX.score {w wr : World} {lo p q r gm : Nat} {m m1 : MdlD} {x : List Int} (h : MrX w wr lo p q r gm m m1) (hok : mdlB (mdlV m1) = true) (hv : valsB m1.traits x = true) :
    ∃ a, scoreM (mdlV m1) x ≤ a ∧ ∀ W X xc, Below wr.heap.size wr W → IntsAt W W.heap.size X x → ScP W m1 x X xc a (decide (1000 * m1.need ≤ a)) := by
  obtain ⟨cl, tl, h⟩ := h
  obtain ⟨h1, h2⟩ := more_model (moreM_up (traits := m1.traits) (need := m1.need) h.up h.ut) hok
  refine ⟨_, h2 x, fun W X xc hb hx => ?_⟩
  have h3 := score_ok (m := ⟨m1.traits, cl, m1.C, m1.c, tl, m1.T, m1.t, m1.need⟩) (X := X) (xc := xc) h1 hv (h.nn.at_.later hb) hx
  have e1 := h.up.1
  have e2 := h.ut.1
  unfold ScP at h3 ⊢
  dsimp only at h3
  rw [e1, e2] at h3
  exact h3
/-- A greater Need. -/
theorem high_ok {m m2 : MdlD} {x : List Int} {X : Option Addr} {xc : Nat} {W : World} {n : Int} (hM : mdlB (mdlV m) = true) (hV : mdlV m2 = mdlV m) (hv : valsB m2.traits x = true) (h : MdlAt W W.heap.size m2) (hx : IntsAt W W.heap.size X x) (hn : -1000000 ≤ n ∧ n ≤ 1000000) : ScP W ⟨m2.traits, m2.cards, m2.C, m2.c, m2.trees, m2.T, m2.t, n⟩ x X xc (scoreM (mdlV m) x) (decide (1000 * n ≤ scoreM (mdlV m) x)) := by
  rw [← hV] at hM ⊢
  obtain ⟨h1, h2⟩ := need_model hM hn
  have h3 := score_ok (m := ⟨m2.traits, m2.cards, m2.C, m2.c, m2.trees, m2.T, m2.t, n⟩) (X := X) (xc := xc) (W := W) h1 hv ⟨h.1, h.2⟩ hx
  have e : scoreM (mdlV ⟨m2.traits, m2.cards, m2.C, m2.c, m2.trees, m2.T, m2.t, n⟩) x = scoreM (mdlV m2) x := h2 x
  rw [e] at h3
  exact h3
theorem mdlV_eq {m m1 : MdlD} (e1 : m1.traits = m.traits) (e2 : m1.need = m.need) (hc : m1.cards.map CrdD.v = m.cards.map CrdD.v) (ht : m1.trees.map TreD.v = m.trees.map TreD.v) : mdlV m1 = mdlV m := by unfold mdlV; rw [e1, e2, hc, ht]
end Go.Proofs.YtpahcbhikmfamaaGreat

namespace Go.Proofs.YtpahcbhikmfamaaGreat
open Go.RowKit Go.Maps

theorem mod4_put2' {w : World} {g : Nat} {a0 a1 a2 a3 c2 : Value} {t : TypeId} (h : Blk w g #[a0, a1, a2, a3] t) : Blk (w.setCell ⟨g, 2, none⟩ c2) g #[a0, a1, c2, a3] t := by
  have := h.set 2 c2
  simpa using this
theorem news_blk {w : World} {g : Nat} {cs : Array Value} {t : TypeId} (h : Blk w g cs t) : ∀ ad, (some ⟨g, 0, none⟩ : Option Addr) = some ad → ∀ j u, cs.toList[j]? = some u → w.cell? (ad.add j) = some u := fun ad e j u hj => by
  cases e
  rw [WideShapes.add_plain, Nat.zero_add, h.cell j]
  simpa using hj
/-- Cards and trees, apart; gi: the model's block. -/
structure IdS (w : World) (lo p q gi : Nat) (cl : List CrdD) (C : Option Addr) (c : Nat) (tl : List TreD) (T : Option Addr) : Prop where
  cards : OwnIn w lo p 37 3 (.slice C cl.length c) cl.length (cl.flatMap crdC)
  eachC : Chain (CrdN w) p q cl
  row : FlatP 2 treC w (fun b => q ≤ b ∧ b ≠ gi) T tl
  eachT : ∀ x ∈ tl, FlatP 5 nodC w (fun b => q ≤ b ∧ b ≠ gi) x.T x.v.nodes
  lop : lo ≤ p
  qg : q ≤ gi
section
variable {w w' wa w9 : World} {lo p q r gi : Nat} {traits need : Int} {cl : List CrdD} {tl : List TreD} {C T : Option Addr} {c t : Nat}
theorem MdlN.nodesP (h : MdlN w lo p q r gi ⟨traits, cl, C, c, tl, T, t, need⟩) : ∀ x ∈ tl, FlatP 5 nodC w (fun b => r ≤ b ∧ b < gi) x.T x.v.nodes := fun x hx => by
  obtain ⟨a, b, h1, h2, h3, h4⟩ := h.eachT.mem hx
  exact FlatP.of_own nodC_len (by decide) h4.own fun b' hb _ ho => ⟨by omega, by have := h4.lt b' ho; omega⟩
theorem IdS.of (h : MdlN w lo p q r gi ⟨traits, cl, C, c, tl, T, t, need⟩) : IdS w lo p q gi cl C c tl T := by
  have h1 := h.lop
  have h2 := h.eachC.le
  have h3 := h.qr
  have h4 := h.eachT.le
  exact ⟨h.cards, h.eachC, FlatP.of_own treC_len (by decide) h.trees.own fun b hb _ ho => ⟨hb, by have := h.trees.lt b ho; omega⟩, fun x hx => (h.nodesP x hx).imp fun b _ hb => ⟨by omega, by omega⟩, h1, by omega⟩
theorem IdS.below (h : IdS w lo p q gi cl C c tl T) (hb : Below w.heap.size w w') : IdS w' lo p q gi cl C c tl T :=
  ⟨h.cards.fr (Fr.below (P := fun _ => True) hb) (fun _ _ _ => trivial), crds_fr h.eachC (Fr.below (P := fun _ => True) hb) (fun _ _ _ => trivial), h.row.move (Fr.below hb), fun x hx => (h.eachT x hx).move (Fr.below hb), h.lop, h.qg⟩
theorem crds_at_ (h : Chain (CrdN w) p q cl) : ∀ x ∈ cl, SclsAt w w.heap.size x.S x.scales := fun x hx => by
  obtain ⟨a, b, _, _, _, n, _, h2, h3⟩ := h.mem hx
  refine ⟨Flat.of_own sclC_len (by decide) h2.own, fun y hy => ?_⟩
  obtain ⟨_, _, _, _, _, h4⟩ := h3.mem hy
  exact ⟨h4.cuts.flat, Flat.of_own intC_len (by decide) h4.pts.own⟩
theorem IdS.at_ (h : IdS w lo p q gi cl C c tl T) : MdlAt w w.heap.size ⟨traits, cl, C, c, tl, T, t, need⟩ :=
  ⟨⟨Flat.of_own crdC_len (by decide) h.cards.own, crds_at_ h.eachC⟩, h.row.flat, fun x hx => (h.eachT x hx).flat⟩
/-- The tree that is appended. -/
def idleD (gb : Nat) : TreD := ⟨idleT, some ⟨gb, 0, none⟩, 1⟩
theorem id_tree {gb t1 : Nat} {T1 : Option Addr} {v : Value} (h : MdlN w lo p q r gi ⟨traits, cl, C, c, tl, T, t, need⟩) (hgi : gi < w.heap.size) (hba : Below w.heap.size w wa) (hgb : w.heap.size ≤ gb) (hk : Blk wa gb #[.int .i64 (-1), .int .i64 0, .int .i64 0, .int .i64 0, .int .i64 77] 48)
    (ho : w9.ownsRow q 45 2 (.slice T1 (tl.length + 1) t1) (tl.length + 1) (tl.flatMap treC ++ treC (idleD gb))) (hg : wa.grownBy w9 (Value.slice T tl.length t).ownBlock)
    (hor : (Value.slice T1 (tl.length + 1) t1).ownBlock = (Value.slice T tl.length t).ownBlock ∨ (Value.slice T1 (tl.length + 1) t1).ownBlock = some wa.heap.size) :
    IdS (w9.setCell ⟨gi, 2, none⟩ v) lo p q gi cl C c (tl ++ [idleD gb]) T1 := by
  have h1 := h.lop
  have h2 := h.eachC.le
  have h3 := h.qr
  have h4 := h.eachT.le
  have hr : ∀ b, (b < q ∨ r ≤ b) → some b ≠ (Value.slice T tl.length t).ownBlock := fun b hb e => by
    have e1 := (h.trees.own.lt b e.symm).1
    have e2 := h.trees.lt b e.symm
    omega
  have hF : Fr (fun b => (b < q ∨ r ≤ b) ∧ b ≠ gi) w (w9.setCell ⟨gi, 2, none⟩ v) := ((Fr.below hba).trans (Fr.grown hg fun b hb => hr b hb.1)).trans (Fr.set (p := ⟨gi, 2, none⟩) (fun e => e.2 rfl) v)
  have hwa := hba.size
  refine ⟨h.cards.fr hF fun b _ _ => ⟨by omega, by omega⟩, crds_fr h.eachC hF fun b _ _ => ⟨by omega, by omega⟩, ?_, fun x hx => ?_, h1, by omega⟩
  · have ho2 : w9.ownsRow q 45 2 (.slice T1 (tl ++ [idleD gb]).length t1) (tl ++ [idleD gb]).length ((tl ++ [idleD gb]).flatMap treC) := by
      rw [List.flatMap_append, List.length_append]
      simpa using ho
    refine (FlatP.of_own treC_len (by decide) ho2 (fun b hb _ hob => (⟨hb, ?_⟩ : q ≤ b ∧ b ≠ gi))).move (Fr.set (p := ⟨gi, 2, none⟩) (fun e => e.2 rfl) v)
    have hob2 : (Value.slice T1 (tl.length + 1) t1).ownBlock = some b := by simpa using hob
    rcases hor with e | e
    · rw [e] at hob2
      have := h.trees.lt b hob2
      omega
    · rw [e] at hob2
      have := Option.some.inj hob2
      omega
  · rcases List.mem_append.1 hx with h5 | h5
    · exact ((h.nodesP x h5).move (hF.imp fun b hb => ⟨.inr hb.1, by omega⟩)).imp fun b _ hb => ⟨by omega, by omega⟩
    · rw [List.mem_singleton] at h5
      subst h5
      have hk9 : Blk (w9.setCell ⟨gi, 2, none⟩ v) gb #[.int .i64 (-1), .int .i64 0, .int .i64 0, .int .i64 0, .int .i64 77] 48 := (hk.grown hg (hr gb (.inr (by omega)))).far (p := ⟨gi, 2, none⟩) (by show gb ≠ gi; omega) v
      intro k hk0
      have hk1 : k = 0 := by simp [idleD, idleT] at hk0; exact hk0
      subst hk1
      refine ⟨gb, 0, rfl, hk9.lt, ⟨by omega, by omega⟩, fun i hi => ?_⟩
      rw [Nat.zero_mul, Nat.add_zero, Nat.zero_add, hk9.cell i]
      match i, hi with
      | 0, _ => rfl
      | 1, _ => rfl
      | 2, _ => rfl
      | 3, _ => rfl
      | 4, _ => rfl
/-- The card's scales, on the way. -/
structure IdL (B gc : Nat) (W wr : World) (k : Nat) (S : Option Addr) (s : Nat) (sl : List SclD) : Prop where
  eq : sl.map SclD.v = List.replicate k ⟨[], [9], 3⟩
  own : wr.ownsRow B 42 3 (.slice S k s) k (sl.flatMap sclC)
  each : ∀ y ∈ sl, SclP wr (fun b => B ≤ b ∧ some b ≠ (Value.slice S k s).ownBlock) y
  kc : Blk wr gc #[.int .i64 0, .int .i64 (-5), .slice S k s] 37
  bel : Below W.heap.size W wr
theorem IdL.len {B gc k s : Nat} {W wr : World} {S : Option Addr} {sl : List SclD} (h : IdL B gc W wr k S s sl) : sl.length = k := by simpa using congrArg List.length h.eq
/-- The scale that is appended. -/
def idleS (gb : Nat) : SclD := ⟨⟨[], [9], 3⟩, none, 0, some ⟨gb, 0, none⟩, 1⟩
theorem IdL.next {B gc k s s1 : Nat} {W wr wa w9 : World} {S S1 : Option Addr} {sl : List SclD} (h : IdL B gc W wr k S s sl) (hgc : gc < B) (hW : W.heap.size ≤ gc) (hB : B ≤ wr.heap.size) (hba : Below wr.heap.size wr wa) (hgb : wr.heap.size < wa.heap.size) (hk : Blk wa wr.heap.size #[.int .i64 9] 3)
    (ho : w9.ownsRow B 42 3 (.slice S1 (k + 1) s1) (k + 1) (sl.flatMap sclC ++ sclC (idleS wr.heap.size))) (hg : wa.grownBy w9 (Value.slice S k s).ownBlock)
    (hor : (Value.slice S1 (k + 1) s1).ownBlock = (Value.slice S k s).ownBlock ∨ (Value.slice S1 (k + 1) s1).ownBlock = some wa.heap.size) :
    IdL B gc W (w9.setCell ⟨gc, 2, none⟩ (.slice S1 (k + 1) s1)) (k + 1) S1 s1 (sl ++ [idleS wr.heap.size]) := by
  have hr0 : ∀ b, (Value.slice S k s).ownBlock = some b → B ≤ b ∧ b < wr.heap.size := fun b hb => h.own.lt b hb
  have hr : ∀ b, b < B ∨ wr.heap.size ≤ b → some b ≠ (Value.slice S k s).ownBlock := fun b hb e => by have := hr0 b e.symm; omega
  have hwa := hba.size
  have hF : Fr (fun b => B ≤ b ∧ some b ≠ (Value.slice S k s).ownBlock) wr (w9.setCell ⟨gc, 2, none⟩ (.slice S1 (k + 1) s1)) := ((Fr.below hba).trans (Fr.grown hg fun b hb => hb.2)).trans (Fr.set (p := ⟨gc, 2, none⟩) (fun e => by have := e.1; dsimp only at this; omega) _)
  have hnew : ∀ b, b < wr.heap.size + 1 → some b ≠ (Value.slice S k s).ownBlock → some b ≠ (Value.slice S1 (k + 1) s1).ownBlock := fun b hb hb2 e => by
    rcases hor with e1 | e1
    · exact hb2 (e.trans e1)
    · have := Option.some.inj (e.trans e1); omega
  refine ⟨?_, ?_, fun y hy => ?_, ?_, ?_⟩
  · rw [List.map_append, h.eq, List.replicate_succ']; rfl
  · rw [List.flatMap_append]
    have := own_far ho (p := ⟨gc, 2, none⟩) hgc (.slice S1 (k + 1) s1)
    simpa using this
  · rcases List.mem_append.1 hy with h5 | h5
    · exact (((h.each y h5).imp (Q := fun b => (B ≤ b ∧ some b ≠ (Value.slice S k s).ownBlock) ∧ b < wr.heap.size) fun b hb hp => ⟨hp, hb⟩).move (hF.imp fun b hb => hb.1)).imp fun b _ hb => ⟨hb.1.1, hnew b (by omega) hb.1.2⟩
    · rw [List.mem_singleton] at h5
      subst h5
      have hk9 : Blk (w9.setCell ⟨gc, 2, none⟩ (.slice S1 (k + 1) s1)) wr.heap.size #[.int .i64 9] 3 := (hk.grown hg (hr _ (.inr (Nat.le_refl _)))).far (p := ⟨gc, 2, none⟩) (by show wr.heap.size ≠ gc; omega) _
      refine ⟨fun k hk => by simp [idleS] at hk, fun k hk0 => ?_⟩
      have hk1 : k = 0 := by simp [idleS] at hk0; exact hk0
      subst hk1
      refine ⟨wr.heap.size, 0, rfl, hk9.lt, ⟨hB, hnew _ (by omega) (hr _ (.inr (Nat.le_refl _)))⟩, fun i hi => ?_⟩
      rw [Nat.zero_mul, Nat.add_zero, Nat.zero_add, hk9.cell i]
      match i, hi with
      | 0, _ => rfl
  · have hkc := ((h.kc.below hba h.kc.lt).grown hg (hr gc (.inl hgc))).set 2 (.slice S1 (k + 1) s1)
    simpa using hkc
  · exact ((h.bel.trans (hba.mono h.bel.size)).grown hg (Nat.le_trans h.bel.size hwa) (fun b hb => by have := hr0 b hb; omega)).setCell (p := ⟨gc, 2, none⟩) hW _
/-- The card that is appended. -/
theorem id_card {k s c1 B : Nat} {S C1 : Option Addr} {sl : List SclD} {v : Value} (h : IdS w lo p q gi cl C c tl T) (hB : gi < B) (hba : Below w.heap.size w wa) (hs1 : wa.ownsRow B 42 3 (.slice S k s) k (sl.flatMap sclC)) (hs2 : ∀ y ∈ sl, SclP wa (fun b => B ≤ b) y) (hk : sl.length = k)
    (ho : w9.ownsRow lo 37 3 (.slice C1 (cl.length + 1) c1) (cl.length + 1) (cl.flatMap crdC ++ crdC ⟨0, -5, sl, S, s⟩)) (hg : wa.grownBy w9 (Value.slice C cl.length c).ownBlock) (hgi : gi < w.heap.size)
    (hor : (Value.slice C1 (cl.length + 1) c1).ownBlock = (Value.slice C cl.length c).ownBlock ∨ (Value.slice C1 (cl.length + 1) c1).ownBlock = some wa.heap.size) :
    MdlAt (w9.setCell ⟨gi, 1, none⟩ v) (w9.setCell ⟨gi, 1, none⟩ v).heap.size ⟨traits, cl ++ [(⟨0, -5, sl, S, s⟩ : CrdD)], C1, c1, tl, T, t, need⟩ := by
  have h1 := h.lop
  have h2 := h.eachC.le
  have h3 := h.qg
  have hr : ∀ b, p ≤ b → some b ≠ (Value.slice C cl.length c).ownBlock := fun b hb e => by
    have e2 := h.cards.lt b e.symm
    omega
  have hwa := hba.size
  have hF9 : Fr (fun b => p ≤ b ∧ b ≠ gi) wa (w9.setCell ⟨gi, 1, none⟩ v) := (Fr.grown hg fun b hb => hr b hb.1).trans (Fr.set (p := ⟨gi, 1, none⟩) (fun e => e.2 rfl) v)
  have hF : Fr (fun b => p ≤ b ∧ b ≠ gi) w (w9.setCell ⟨gi, 1, none⟩ v) := (Fr.below hba).trans hF9
  refine ⟨⟨?_, fun x hx => ?_⟩, (h.row.move (hF.imp fun b hb => ⟨by omega, hb.2⟩)).flat, fun x hx => ((h.eachT x hx).move (hF.imp fun b hb => ⟨by omega, hb.2⟩)).flat⟩
  · have ho2 : w9.ownsRow lo 37 3 (.slice C1 (cl ++ [(⟨0, -5, sl, S, s⟩ : CrdD)]).length c1) (cl ++ [(⟨0, -5, sl, S, s⟩ : CrdD)]).length ((cl ++ [(⟨0, -5, sl, S, s⟩ : CrdD)]).flatMap crdC) := by
      rw [List.flatMap_append, List.length_append]
      simpa using ho
    refine ((FlatP.of_own crdC_len (by decide) ho2 (P := fun b => b ≠ gi) (fun b hb _ hob => ?_)).move (Fr.set (p := ⟨gi, 1, none⟩) (fun e => e rfl) v)).flat
    have hob2 : (Value.slice C1 (cl.length + 1) c1).ownBlock = some b := by simpa using hob
    rcases hor with e | e
    · rw [e] at hob2
      have := h.cards.lt b hob2
      omega
    · rw [e] at hob2
      have := Option.some.inj hob2
      omega
  · rcases List.mem_append.1 hx with h5 | h5
    · exact crds_at_ (crds_fr h.eachC hF fun b hb1 hb2 => ⟨hb1, by omega⟩) x h5
    · rw [List.mem_singleton] at h5
      subst h5
      subst hk
      have e1 : SclsP wa (fun b => B ≤ b) S sl := ⟨FlatP.of_own sclC_len (by decide) hs1 (fun b hb _ _ => hb), hs2⟩
      exact (e1.move (hF9.imp fun b hb => ⟨by omega, by omega⟩)).at_
/-- What weighs nothing changes no score. -/
theorem idle_t {traits need : Int} {cl : List CrdD} {tl : List TreD} (hb : mdlB ⟨traits, cl.map CrdD.v, tl.map TreD.v, need⟩ = true) (hl : tl.length < 2) (gb : Nat) : mdlB ⟨traits, cl.map CrdD.v, (tl ++ [idleD gb]).map TreD.v, need⟩ = true ∧ ∀ x, scoreM ⟨traits, cl.map CrdD.v, (tl ++ [idleD gb]).map TreD.v, need⟩ x = scoreM ⟨traits, cl.map CrdD.v, tl.map TreD.v, need⟩ x := by
  have := idle_tree (m := ⟨traits, cl.map CrdD.v, tl.map TreD.v, need⟩) hb (by simpa using hl)
  rw [List.map_append]
  exact this
theorem idle_c {traits need : Int} {cl : List CrdD} {tl : List TreD} {sl : List SclD} {S : Option Addr} {s n : Nat} (hb : mdlB ⟨traits, cl.map CrdD.v, tl.map TreD.v, need⟩ = true) (hl : cl.length < 2) (hn : (n : Int) = traits) (he : sl.map SclD.v = List.replicate n ⟨[], [9], 3⟩) : mdlB ⟨traits, (cl ++ [(⟨0, -5, sl, S, s⟩ : CrdD)]).map CrdD.v, tl.map TreD.v, need⟩ = true ∧ ∀ x, scoreM ⟨traits, (cl ++ [(⟨0, -5, sl, S, s⟩ : CrdD)]).map CrdD.v, tl.map TreD.v, need⟩ x = scoreM ⟨traits, cl.map CrdD.v, tl.map TreD.v, need⟩ x := by
  have := idle_card (m := ⟨traits, cl.map CrdD.v, tl.map TreD.v, need⟩) (n := n) hb (by simpa using hl) hn
  have e : (cl ++ [(⟨0, -5, sl, S, s⟩ : CrdD)]).map CrdD.v = cl.map CrdD.v ++ [idleC n] := by
    rw [List.map_append]
    simp [CrdD.v, idleC, he]
  rw [e]
  exact this
end
end Go.Proofs.YtpahcbhikmfamaaGreat
