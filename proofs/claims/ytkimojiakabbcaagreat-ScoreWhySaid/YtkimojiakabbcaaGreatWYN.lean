/- Values between the same cuts; values within spans, and those that stand for them; what Between tells. -/
import Derived.Test.YtkimojiakabbcaaGreatBAll
import Derived.Test.YtkimojiakabbcaaGreatWP1
import Derived.Test.YtkimojiakabbcaaGreatRP7

namespace Go.Proofs.YtkimojiakabbcaaGreat

/-! Values between the same cuts. -/
/-- Two lists of values: missing at the same places, and above the same cuts. -/
def SameBins (m : Mdl) (x y : List Int) : Prop := ∀ k, k < x.length → (x.getD k 0 = -1 ↔ y.getD k 0 = -1) ∧ ∀ c ∈ cutsT m k, (c ≤ x.getD k 0 ↔ c ≤ y.getD k 0)
theorem cntLe_same {cuts : List Int} {v u : Int} (h : ∀ c ∈ cuts, (c ≤ v ↔ c ≤ u)) : cntLe cuts v = cntLe cuts u := by
  unfold cntLe
  congr 1
  exact List.filter_congr fun c hc => by simp only [h c hc]
theorem onScl_same {s : Scl} {v u : Int} (h1 : v = -1 ↔ u = -1) (h : ∀ c ∈ s.cuts, (c ≤ v ↔ c ≤ u)) : onScl s v = onScl s u := by
  unfold onScl
  rw [cntLe_same h]
  by_cases hv : v = -1
  · rw [if_pos hv, if_pos (h1.1 hv)]
  · rw [if_neg hv, if_neg (fun e => hv (h1.2 e))]
theorem sclsUp_same {scales : List Scl} {x y : List Int} : ∀ n, (∀ k, k < n → onScl (scales.getD k default) (x.getD k 0) = onScl (scales.getD k default) (y.getD k 0)) → sclsUp scales x n = sclsUp scales y n
  | 0, _ => rfl
  | n + 1, h => by rw [sclsUp, sclsUp, sclsUp_same n (fun k hk => h k (by omega)), h n (by omega)]
theorem treGo_same {nodes : List Nod} {x y : List Int} (h : ∀ n ∈ nodes, n.tr ≠ -1 → (x.getD n.tr.toNat 0 < n.cut ↔ y.getD n.tr.toNat 0 < n.cut)) : ∀ f a, treGo nodes x f a = treGo nodes y f a
  | 0, _ => rfl
  | f + 1, a => by
    unfold treGo
    by_cases ht : (nodes.getD a default).tr = -1
    · rw [if_pos ht, if_pos ht]
    · rw [if_neg ht, if_neg ht]
      by_cases ha : a < nodes.length
      · have hm : nodes.getD a default ∈ nodes := by rw [getD_lt _ _ ha]; exact List.getElem_mem ha
        have e := h _ hm ht
        by_cases hl : x.getD (nodes.getD a default).tr.toNat 0 < (nodes.getD a default).cut
        · rw [if_pos hl, if_pos (e.1 hl)]; exact treGo_same h f _
        · rw [if_neg hl, if_neg (fun q => hl (e.2 q))]; exact treGo_same h f _
      · have e : nodes.getD a default = default := by simp [ha]
        rw [e]
        have e2 : (default : Nod) = ⟨0, 0, 0, 0, 0⟩ := rfl
        rw [e2]
        dsimp only
        have e3 : ∀ z : List Int, (if z.getD (0 : Int).toNat 0 < 0 then treGo nodes z f (0 : Int).toNat else treGo nodes z f (0 : Int).toNat) = treGo nodes z f 0 := fun z => by split <;> rfl
        rw [e3, e3]
        exact treGo_same h f 0
theorem cutsT_scl {m : Mdl} {c : Crd} {k : Nat} (hc : c ∈ m.cards) {v : Int} (hv : v ∈ (c.scales.getD k default).cuts) : v ∈ cutsT m k :=
  List.mem_append_left _ (List.mem_flatMap.2 ⟨c, hc, hv⟩)
theorem cutsT_nod {m : Mdl} {t : Tre} {k : Nat} (ht : t ∈ m.trees) {n : Nod} (hn : n ∈ t.nodes) (hk : n.tr = (k : Int)) : n.cut ∈ cutsT m k :=
  List.mem_append_right _ (List.mem_flatMap.2 ⟨t, ht, List.mem_map.2 ⟨n, List.mem_filter.2 ⟨hn, by simp [hk]⟩, rfl⟩⟩)
theorem parts_same {m : Mdl} {x y : List Int} (hm : mdlB m = true) (hl : (x.length : Int) = m.traits) (h : SameBins m x y) : (∀ c ∈ m.cards, onCrd c x = onCrd c y) ∧ ∀ t ∈ m.trees, onTre t x = onTre t y := by
  obtain ⟨h1, _, _, _, h5, h6⟩ := mdlB_parts hm
  refine ⟨fun c hc => ?_, fun t ht => ?_⟩
  · unfold onCrd
    congr 1
    have h7 := (crdB_parts (h5 c hc)).2.2.1
    exact sclsUp_same _ fun k hk => onScl_same (h k (by omega)).1 fun v hv => (h k (by omega)).2 v (cutsT_scl hc hv)
  · unfold onTre
    refine treGo_same (fun n hn hnt => ?_) _ _
    obtain ⟨i, hi, rfl⟩ := List.mem_iff_getElem.1 hn
    have h8 := (treB_parts (h6 t ht)).2.2 i hi
    rw [getD_lt _ _ hi] at h8
    unfold nodB at h8
    rw [if_neg hnt] at h8
    simp only [Bool.and_eq_true, inN_iff] at h8
    have h9 := h8.1.1.1.1.1
    have hk : t.nodes[i].tr.toNat < x.length := by omega
    have := (h _ hk).2 t.nodes[i].cut (cutsT_nod ht hn (by omega))
    omega
theorem score_same {m : Mdl} {x y : List Int} (hm : mdlB m = true) (hl : (x.length : Int) = m.traits) (h : SameBins m x y) : scoreM m x = scoreM m y := by
  obtain ⟨h1, h2⟩ := parts_same hm hl h
  unfold scoreM
  congr 2
  · exact List.map_congr_left fun c hc => by rw [h1 c hc]
  · exact List.map_congr_left fun t ht => by rw [h2 t ht]

/-! Values within spans, and those that stand for them. -/
def Within (x : List Spn) (y : List Int) : Prop := y.length = x.length ∧ ∀ k, k < x.length → (x.getD k default).lo ≤ y.getD k 0 ∧ y.getD k 0 ≤ (x.getD k default).hi
theorem vecs_iff : ∀ (L : List (List Int)) (v : List Int), v ∈ vecs L ↔ v.length = L.length ∧ ∀ k, k < L.length → v.getD k 0 ∈ L.getD k []
  | [], v => by
    simp only [vecs, List.mem_singleton, List.length_nil]
    constructor
    · rintro rfl; exact ⟨rfl, fun k hk => by omega⟩
    · rintro ⟨h, _⟩; exact List.length_eq_zero_iff.1 h
  | l :: L, v => by
    unfold vecs
    rw [List.mem_flatMap]
    constructor
    · rintro ⟨a, ha, h⟩
      obtain ⟨r, hr, rfl⟩ := List.mem_map.1 h
      obtain ⟨h1, h2⟩ := (vecs_iff L r).1 hr
      refine ⟨by simp [h1], fun k hk => ?_⟩
      cases k with
      | zero => simpa using ha
      | succ k => simpa using h2 k (by simpa using hk)
    · rintro ⟨h1, h2⟩
      cases v with
      | nil => simp at h1
      | cons a r =>
        refine ⟨a, by simpa using h2 0 (by simp), List.mem_map.2 ⟨r, (vecs_iff L r).2 ⟨by simpa using h1, fun k hk => ?_⟩, rfl⟩⟩
        simpa using h2 (k + 1) (by simpa using hk)
theorem stepsL_len (m : Mdl) (x : List Spn) : (stepsL m x).length = x.length := by unfold stepsL; simp
theorem stepsL_getD {m : Mdl} {x : List Spn} {k : Nat} (hk : k < x.length) : (stepsL m x).getD k [] = stepsI (x.getD k default).lo (x.getD k default).hi (cutsT m k) := by
  unfold stepsL
  rw [getD_lt _ _ (by simpa using hk)]
  simp
theorem spnsB_at {traits : Int} {x : List Spn} (h : spnsB traits x = true) {k : Nat} (hk : k < x.length) : 0 ≤ (x.getD k default).lo ∧ (x.getD k default).lo ≤ 1000000 ∧ (x.getD k default).lo ≤ (x.getD k default).hi ∧ (x.getD k default).hi ≤ 1000000 := by
  unfold spnsB at h
  simp only [Bool.and_eq_true, decide_eq_true_eq, List.all_eq_true] at h
  have := h.2 (x.getD k default) (by rw [getD_lt _ _ hk]; exact List.getElem_mem hk)
  unfold spnB at this
  simp only [Bool.and_eq_true, inN_iff] at this
  omega
theorem steps_within {m : Mdl} {x : List Spn} (hx : spnsB m.traits x = true) {v : List Int} (h : v ∈ vecs (stepsL m x)) : Within x v := by
  obtain ⟨h1, h2⟩ := (vecs_iff _ _).1 h
  rw [stepsL_len] at h1
  refine ⟨h1, fun k hk => ?_⟩
  have h3 := h2 k (by rw [stepsL_len]; exact hk)
  rw [stepsL_getD hk, stepsI_mem] at h3
  have h4 := spnsB_at hx hk
  rcases h3 with e | ⟨_, e⟩
  · omega
  · unfold spanIn at e
    simp only [Bool.and_eq_true, decide_eq_true_eq] at e
    omega
/-- The greatest of the steps that is not above a value. -/
theorem step_of (lo hi v : Int) (cs : List Int) (h1 : lo ≤ v) (h2 : v ≤ hi) : ∃ u ∈ stepsI lo hi cs, u ≤ v ∧ lo ≤ u ∧ ∀ c ∈ cs, (c ≤ u ↔ c ≤ v) := by
  have key : ∀ l : List Int, ∃ u, (u = lo ∨ (u ∈ l ∧ lo < u ∧ u ≤ hi)) ∧ u ≤ v ∧ lo ≤ u ∧ ∀ c ∈ l, c ≤ v → c ≤ u := by
    intro l
    induction l with
    | nil => exact ⟨lo, .inl rfl, h1, Int.le_refl _, fun c hc => by simp at hc⟩
    | cons a l ih =>
      obtain ⟨u, hu, huv, hlu, hc⟩ := ih
      by_cases ha : u < a ∧ a ≤ v
      · refine ⟨a, .inr ⟨by simp, by omega, by omega⟩, ha.2, by omega, fun c hcm hcv => ?_⟩
        rcases List.mem_cons.1 hcm with rfl | hcm
        · exact Int.le_refl _
        · have := hc c hcm hcv; omega
      · refine ⟨u, ?_, huv, hlu, fun c hcm hcv => ?_⟩
        · rcases hu with e | ⟨e, e2, e3⟩
          · exact .inl e
          · exact .inr ⟨by simp [e], e2, e3⟩
        · rcases List.mem_cons.1 hcm with rfl | hcm
          · omega
          · exact hc c hcm hcv
  obtain ⟨u, hu, huv, hlu, hc⟩ := key cs
  refine ⟨u, (stepsI_mem ..).2 ?_, huv, hlu, fun c hcm => ⟨fun h => by omega, hc c hcm⟩⟩
  rcases hu with e | ⟨e, e2, e3⟩
  · exact .inl e
  · exact .inr ⟨e, by unfold spanIn; simp [e2, e3]⟩
theorem within_step {m : Mdl} {x : List Spn} (hm : mdlB m = true) (hx : spnsB m.traits x = true) {y : List Int} (h : Within x y) : ∃ v ∈ vecs (stepsL m x), scoreM m v = scoreM m y := by
  obtain ⟨hl, h⟩ := h
  have hc : ∀ k, k < x.length → ∃ u ∈ stepsI (x.getD k default).lo (x.getD k default).hi (cutsT m k), u ≤ y.getD k 0 ∧ (x.getD k default).lo ≤ u ∧ ∀ c ∈ cutsT m k, (c ≤ u ↔ c ≤ y.getD k 0) :=
    fun k hk => step_of _ _ _ _ (h k hk).1 (h k hk).2
  obtain ⟨f, hf⟩ : ∃ f : Nat → Int, ∀ k, k < x.length → f k ∈ stepsI (x.getD k default).lo (x.getD k default).hi (cutsT m k) ∧ f k ≤ y.getD k 0 ∧ (x.getD k default).lo ≤ f k ∧ ∀ c ∈ cutsT m k, (c ≤ f k ↔ c ≤ y.getD k 0) := by
    refine ⟨fun k => if hk : k < x.length then Classical.choose (hc k hk) else 0, fun k hk => ?_⟩
    simp only [dif_pos hk]
    have := Classical.choose_spec (hc k hk)
    exact ⟨this.1, this.2⟩
  have hg : ∀ k, k < x.length → ((List.range x.length).map f).getD k 0 = f k := fun k hk => by
    rw [getD_lt _ _ (by simpa using hk)]; simp
  refine ⟨(List.range x.length).map f, (vecs_iff _ _).2 ⟨by rw [stepsL_len]; simp, fun k hk => ?_⟩, ?_⟩
  · rw [stepsL_len] at hk
    rw [stepsL_getD hk, hg k hk]
    exact (hf k hk).1
  · refine score_same hm (by rw [List.length_map, List.length_range]; exact spnsB_len hx) fun k hk => ?_
    rw [List.length_map, List.length_range] at hk
    rw [hg k hk]
    obtain ⟨_, f2, f3, f4⟩ := hf k hk
    have := spnsB_at hx hk
    exact ⟨by omega, f4⟩

/-! The least and the greatest of a list. -/
theorem hiL_ge : ∀ (l : List Int) (a : Int), a ≤ l.foldl max a ∧ ∀ n ∈ l, n ≤ l.foldl max a
  | [], a => ⟨Int.le_refl _, fun n hn => by simp at hn⟩
  | x :: l, a => by
    obtain ⟨h1, h2⟩ := hiL_ge l (max a x)
    rw [List.foldl_cons]
    refine ⟨by omega, fun n hn => ?_⟩
    rcases List.mem_cons.1 hn with rfl | hn
    · omega
    · exact h2 n hn
theorem hiL_mem : ∀ (l : List Int) (a : Int), l.foldl max a = a ∨ l.foldl max a ∈ l
  | [], a => .inl rfl
  | x :: l, a => by
    rw [List.foldl_cons]
    rcases hiL_mem l (max a x) with h | h
    · rw [h]
      rcases Int.le_total a x with e | e
      · right; rw [Int.max_eq_right e]; simp
      · left; rw [Int.max_eq_left e]
    · right; exact List.mem_cons_of_mem _ h
theorem hiL_spec {l : List Int} (hn : l ≠ []) (hb : ∀ n ∈ l, -9223372036854775808 ≤ n) : hiL l ∈ l ∧ ∀ n ∈ l, n ≤ hiL l := by
  obtain ⟨h1, h2⟩ := hiL_ge l (-9223372036854775808)
  refine ⟨?_, h2⟩
  rcases hiL_mem l (-9223372036854775808) with h | h
  · cases l with
    | nil => exact absurd rfl hn
    | cons x l =>
      have h3 := h2 x (by simp)
      have h4 := hb x (by simp)
      have : hiL (x :: l) = x := by unfold hiL; omega
      rw [this]; simp
  · exact h
theorem loL_eq (l : List Int) : loL l = -(hiL (l.map fun n => -n)) := by
  unfold loL hiL
  rw [List.foldl_map]
theorem loL_spec {l : List Int} (hn : l ≠ []) (hb : ∀ n ∈ l, n ≤ 9223372036854775808) : loL l ∈ l ∧ ∀ n ∈ l, loL l ≤ n := by
  obtain ⟨h1, h2⟩ := hiL_spec (l := l.map fun n => -n) (by simpa using hn) (fun n hn => by
    obtain ⟨q, hq, rfl⟩ := List.mem_map.1 hn
    have := hb q hq; omega)
  rw [loL_eq]
  refine ⟨?_, fun n hn => ?_⟩
  · obtain ⟨q, hq, he⟩ := List.mem_map.1 h1
    rw [← he]
    have : -(-q) = q := by omega
    rw [this]; exact hq
  · have := h2 (-n) (List.mem_map_of_mem hn)
    omega
/-- What Between tells: the least and the greatest score within the spans. -/
theorem betV_spec {m : Mdl} {x : List Spn} (hm : mdlB m = true) (hx : spnsB m.traits x = true) (hb : ∀ v, v.length = x.length → -44000000000 ≤ scoreM m v ∧ scoreM m v ≤ 44000000000) :
    (∃ y, Within x y ∧ scoreM m y = (betV m x).lo) ∧ (∃ y, Within x y ∧ scoreM m y = (betV m x).hi) ∧ ∀ y, Within x y → (betV m x).lo ≤ scoreM m y ∧ scoreM m y ≤ (betV m x).hi := by
  have hE : betE m x = 0 := by unfold betE; rw [if_pos hm, if_pos hx]
  have hV : betV m x = ⟨loL ((vecs (stepsL m x)).map (scoreM m)), hiL ((vecs (stepsL m x)).map (scoreM m))⟩ := by unfold betV; exact if_pos hE
  have hbd : ∀ n ∈ (vecs (stepsL m x)).map (scoreM m), -44000000000 ≤ n ∧ n ≤ 44000000000 := fun n hn => by
    obtain ⟨v, hv, rfl⟩ := List.mem_map.1 hn
    exact hb v (by rw [vecs_mem_len _ _ hv, stepsL_len])
  have hne : (vecs (stepsL m x)).map (scoreM m) ≠ [] := by
    obtain ⟨v, hv, _⟩ := within_step hm hx (y := x.map Spn.lo) ⟨by simp, fun k hk => by
      have := spnsB_at hx hk
      rw [getD_lt (x.map Spn.lo) 0 (by simpa using hk), List.getElem_map, ← getD_lt x default hk]
      omega⟩
    exact List.ne_nil_of_mem (List.mem_map_of_mem hv)
  obtain ⟨h1, h2⟩ := hiL_spec hne fun n hn => by have := hbd n hn; omega
  obtain ⟨h3, h4⟩ := loL_spec hne fun n hn => by have := hbd n hn; omega
  rw [hV]
  dsimp only
  refine ⟨?_, ?_, fun y hy => ?_⟩
  · obtain ⟨v, hv, he⟩ := List.mem_map.1 h3
    exact ⟨v, steps_within hx hv, he⟩
  · obtain ⟨v, hv, he⟩ := List.mem_map.1 h1
    exact ⟨v, steps_within hx hv, he⟩
  · obtain ⟨v, hv, he⟩ := within_step hm hx hy
    have hmem := List.mem_map_of_mem (f := scoreM m) hv
    rw [he] at hmem
    exact ⟨h4 _ hmem, h2 _ hmem⟩
/-- The spans with another one at a place. -/
theorem getD_set {α : Type} [Inhabited α] (l : List α) (i k : Nat) (v d : α) (hk : k < l.length) : (l.set i v).getD k d = if i = k then v else l.getD k d := by
  rw [getD_lt _ _ (by simpa using hk), getD_lt _ _ hk, List.getElem_set]
theorem spnsB_iff {traits : Int} {x : List Spn} : spnsB traits x = true ↔ (x.length : Int) = traits ∧ ∀ k, k < x.length → 0 ≤ (x.getD k default).lo ∧ (x.getD k default).lo ≤ (x.getD k default).hi ∧ (x.getD k default).hi ≤ 1000000 := by
  constructor
  · intro h
    exact ⟨spnsB_len h, fun k hk => by have := spnsB_at h hk; omega⟩
  · rintro ⟨h1, h2⟩
    unfold spnsB
    simp only [Bool.and_eq_true, decide_eq_true_eq, List.all_eq_true]
    refine ⟨h1, fun s hs => ?_⟩
    obtain ⟨k, hk, rfl⟩ := List.mem_iff_getElem.1 hs
    have := h2 k hk
    rw [getD_lt _ _ hk] at this
    unfold spnB
    simp only [Bool.and_eq_true, inN_iff]
    omega
theorem spnsB_set {traits : Int} {x : List Spn} (h : spnsB traits x = true) {i : Nat} {s : Spn} (hs : spnB s = true) : spnsB traits (x.set i s) = true := by
  rw [spnsB_iff] at h ⊢
  refine ⟨by simpa using h.1, fun k hk => ?_⟩
  rw [List.length_set] at hk
  rw [getD_set _ _ _ _ _ hk]
  unfold spnB at hs
  simp only [Bool.and_eq_true, inN_iff] at hs
  split
  · omega
  · exact h.2 k hk
theorem within_set {x : List Spn} {i : Nat} {s : Spn} {y : List Int} : Within (x.set i s) y ↔ y.length = x.length ∧ ∀ k, k < x.length → (if i = k then s.lo ≤ y.getD k 0 ∧ y.getD k 0 ≤ s.hi else (x.getD k default).lo ≤ y.getD k 0 ∧ y.getD k 0 ≤ (x.getD k default).hi) := by
  unfold Within
  rw [List.length_set]
  constructor
  · rintro ⟨h1, h2⟩
    refine ⟨h1, fun k hk => ?_⟩
    have := h2 k hk
    rw [getD_set _ _ _ _ _ hk] at this
    split <;> rename_i h <;> simp only [h, if_true, if_false] at this <;> exact this
  · rintro ⟨h1, h2⟩
    refine ⟨h1, fun k hk => ?_⟩
    have := h2 k hk
    rw [getD_set _ _ _ _ _ hk]
    split <;> rename_i h <;> simp only [h, if_true, if_false] at this <;> exact this
theorem within_part {x : List Spn} {i : Nat} {cut : Int} {y : List Int} (h1 : (x.getD i default).lo ≤ cut) (h2 : cut < (x.getD i default).hi) : Within x y ↔ Within (x.set i ⟨(x.getD i default).lo, cut⟩) y ∨ Within (x.set i ⟨cut + 1, (x.getD i default).hi⟩) y := by
  rw [within_set, within_set]
  dsimp only
  constructor
  · rintro ⟨h3, h4⟩
    rcases Int.lt_or_le cut (y.getD i 0) with h5 | h5
    · right
      refine ⟨h3, fun k hk => ?_⟩
      have := h4 k hk
      split
      · rename_i e; subst e; omega
      · exact this
    · left
      refine ⟨h3, fun k hk => ?_⟩
      have := h4 k hk
      split
      · rename_i e; subst e; omega
      · exact this
  · rintro (⟨h3, h4⟩ | ⟨h3, h4⟩)
    · refine ⟨h3, fun k hk => ?_⟩
      have := h4 k hk
      split at this
      · rename_i e; subst e; omega
      · exact this
    · refine ⟨h3, fun k hk => ?_⟩
      have := h4 k hk
      split at this
      · rename_i e; subst e; omega
      · exact this
theorem betE_ok {m : Mdl} {x : List Spn} (hm : mdlB m = true) (hx : spnsB m.traits x = true) : betE m x = 0 := by unfold betE; rw [if_pos hm, if_pos hx]
theorem part_spns {m : Mdl} {x : List Spn} {i : Nat} {cut : Int} (hx : spnsB m.traits x = true) (hi : i < x.length) (h1 : (x.getD i default).lo ≤ cut) (h2 : cut < (x.getD i default).hi) : spnsB m.traits (x.set i ⟨(x.getD i default).lo, cut⟩) = true ∧ spnsB m.traits (x.set i ⟨cut + 1, (x.getD i default).hi⟩) = true := by
  have h3 := spnsB_at hx hi
  exact ⟨spnsB_set hx (by unfold spnB; simp only [Bool.and_eq_true, inN_iff]; omega), spnsB_set hx (by unfold spnB; simp only [Bool.and_eq_true, inN_iff]; omega)⟩
/-- Both scores that are told are reached by the parts. -/
theorem betV_part {m : Mdl} {x : List Spn} {i : Nat} {cut : Int} (hm : mdlB m = true) (hx : spnsB m.traits x = true) (hb : ∀ v, v.length = x.length → -44000000000 ≤ scoreM m v ∧ scoreM m v ≤ 44000000000) (hi : i < x.length) (h1 : (x.getD i default).lo ≤ cut) (h2 : cut < (x.getD i default).hi) :
    (betV m x).lo = min (betV m (x.set i ⟨(x.getD i default).lo, cut⟩)).lo (betV m (x.set i ⟨cut + 1, (x.getD i default).hi⟩)).lo ∧ (betV m x).hi = max (betV m (x.set i ⟨(x.getD i default).lo, cut⟩)).hi (betV m (x.set i ⟨cut + 1, (x.getD i default).hi⟩)).hi := by
  obtain ⟨q1, q2⟩ := part_spns (m := m) hx hi h1 h2
  obtain ⟨⟨a, a1, a2⟩, ⟨b, b1, b2⟩, c⟩ := betV_spec hm hx hb
  obtain ⟨⟨d, d1, d2⟩, ⟨e, e1, e2⟩, f⟩ := betV_spec hm q1 (by rw [List.length_set]; exact hb)
  obtain ⟨⟨g, g1, g2⟩, ⟨k, k1, k2⟩, l⟩ := betV_spec hm q2 (by rw [List.length_set]; exact hb)
  have w : ∀ y, Within x y ↔ Within (x.set i ⟨(x.getD i default).lo, cut⟩) y ∨ Within (x.set i ⟨cut + 1, (x.getD i default).hi⟩) y := fun y => within_part h1 h2
  have cd := c d ((w d).2 (.inl d1))
  have ce := c e ((w e).2 (.inl e1))
  have cg := c g ((w g).2 (.inr g1))
  have ck := c k ((w k).2 (.inr k1))
  rcases (w a).1 a1 with ha | ha <;> rcases (w b).1 b1 with hb' | hb'
  · have := f a ha; have := f b hb'; omega
  · have := f a ha; have := l b hb'; omega
  · have := l a ha; have := f b hb'; omega
  · have := l a ha; have := l b hb'; omega

theorem within_just {y z : List Int} (h : Within (justS y) z) : z = y := by
  obtain ⟨h1, h2⟩ := h
  have hl : (justS y).length = y.length := by unfold justS; simp
  rw [hl] at h1 h2
  refine List.ext_getElem h1 fun k hk hk' => ?_
  have := h2 k hk'
  rw [justS_getD hk', getD_lt y 0 hk', getD_lt z 0 hk] at this
  dsimp only at this
  omega
theorem betV_inside {m : Mdl} {x z : List Spn} {y : List Int} (hm : mdlB m = true) (hx : spnsB m.traits x = true) (hz : spnsB m.traits z = true) (hb : ∀ v, v.length = x.length → -44000000000 ≤ scoreM m v ∧ scoreM m v ≤ 44000000000) (hzx : ∀ v, Within z v → Within x v) (hy : Within z y) (hj : spnsB m.traits (justS y) = true) :
    (betV m x).lo ≤ (betV m z).lo ∧ (betV m z).lo ≤ scoreM m y ∧ scoreM m y ≤ (betV m z).hi ∧ (betV m z).hi ≤ (betV m x).hi ∧ betV m (justS y) = ⟨scoreM m y, scoreM m y⟩ := by
  have e1 := spnsB_len hx
  have e2 := spnsB_len hz
  have e3 := spnsB_len hj
  obtain ⟨⟨a, a1, a2⟩, ⟨b, b1, b2⟩, c⟩ := betV_spec hm hx hb
  obtain ⟨⟨d, d1, d2⟩, ⟨e, e4, e5⟩, f⟩ := betV_spec hm hz (fun v hv => hb v (by omega))
  obtain ⟨⟨g, g1, g2⟩, ⟨k, k1, k2⟩, l⟩ := betV_spec hm hj (fun v hv => hb v (by omega))
  rw [within_just g1] at g2
  rw [within_just k1] at k2
  have h1 := c d (hzx d d1)
  have h2 := c e (hzx e e4)
  have h3 := f y hy
  refine ⟨by omega, by omega, by omega, by omega, ?_⟩
  have h4 : betV m (justS y) = ⟨(betV m (justS y)).lo, (betV m (justS y)).hi⟩ := rfl
  rw [h4, ← g2, ← k2]
end Go.Proofs.YtkimojiakabbcaaGreat

namespace Go.Proofs.YtkimojiakabbcaaGreat

theorem same_bin {m : Mdl} {k : Nat} {v u lo hi : Int} (h : ∀ c ∈ stepsI 0 1000000 (cutsT m k), (c ≤ v → c ≤ lo) ∧ (v < c → hi ≤ c - 1)) (h0 : 0 ≤ lo) (h1 : lo ≤ v) (h2 : v ≤ hi) (h3 : hi ≤ 1000000) (h4 : lo ≤ u) (h5 : u ≤ hi) : ∀ c ∈ cutsT m k, (c ≤ v ↔ c ≤ u) := fun c hc => by
  by_cases hb : 0 < c ∧ c ≤ 1000000
  · have := h c ((stepsI_mem ..).2 (.inr ⟨hc, by unfold spanIn; simp [hb.1, hb.2]⟩))
    omega
  · omega
theorem valsB_iff {traits : Int} {x : List Int} : valsB traits x = true ↔ (x.length : Int) = traits ∧ ∀ k, k < x.length → -1 ≤ x.getD k 0 ∧ x.getD k 0 ≤ 1000000 := by
  unfold valsB
  simp only [Bool.and_eq_true, decide_eq_true_eq, List.all_eq_true]
  constructor
  · rintro ⟨h1, h2⟩
    refine ⟨h1, fun k hk => ?_⟩
    have := h2 x[k] (List.getElem_mem hk)
    rw [getD_lt _ _ hk]
    unfold valB at this
    exact inN_iff.1 this
  · rintro ⟨h1, h2⟩
    refine ⟨h1, fun z hz => ?_⟩
    obtain ⟨k, hk, rfl⟩ := List.mem_iff_getElem.1 hz
    have := h2 k hk
    rw [getD_lt _ _ hk] at this
    unfold valB
    exact inN_iff.2 this
/-- The values of a list, at each place between the same cuts as another's. -/
def BinK (m : Mdl) (x ys : List Int) (k : Nat) : Prop := (x.getD k 0 = -1 ↔ ys.getD k 0 = -1) ∧ (∀ c ∈ cutsT m k, (c ≤ x.getD k 0 ↔ c ≤ ys.getD k 0)) ∧ -1 ≤ ys.getD k 0 ∧ ys.getD k 0 ≤ 1000000
theorem bins_same {m : Mdl} {x ys : List Int} (hm : mdlB m = true) (hx : valsB m.traits x = true) (hl : ys.length = x.length) (h : ∀ k, k < x.length → BinK m x ys k) : forE m x = 0 ∧ forE m ys = 0 ∧ scN m ys = scN m x ∧ scY m ys = scY m x := by
  have h1 := (valsB_iff.1 hx).1
  have hy : valsB m.traits ys = true := valsB_iff.2 ⟨by omega, fun k hk => (h k (by omega)).2.2⟩
  have e1 : forE m x = 0 := by unfold forE; rw [if_pos hm, if_pos hx]
  have e2 : forE m ys = 0 := by unfold forE; rw [if_pos hm, if_pos hy]
  have e3 : scoreM m x = scoreM m ys := score_same hm h1 fun k hk => ⟨(h k hk).1, (h k hk).2.1⟩
  refine ⟨e1, e2, ?_, ?_⟩
  · unfold scN; rw [if_pos e1, if_pos e2, e3]
  · unfold scY; rw [if_pos e1, if_pos e2, e3]
end Go.Proofs.YtkimojiakabbcaaGreat

namespace Go.Proofs.YtkimojiakabbcaaGreat

/-! Sets by what they hold. -/
def setF (p : Nat → Bool) (T : Nat) : List Int := ((List.range T).filter p).map fun (k : Nat) => (k : Int)
theorem setF_mem {p : Nat → Bool} {T k : Nat} : (k : Int) ∈ setF p T ↔ k < T ∧ p k = true := by
  unfold setF
  rw [List.mem_map]
  constructor
  · rintro ⟨j, hj, e⟩
    obtain rfl : j = k := by omega
    have := List.mem_filter.1 hj
    exact ⟨List.mem_range.1 this.1, this.2⟩
  · rintro ⟨h1, h2⟩; exact ⟨k, List.mem_filter.2 ⟨List.mem_range.2 h1, h2⟩, rfl⟩
theorem setF_congr {p q : Nat → Bool} {T : Nat} (h : ∀ k, k < T → p k = q k) : setF p T = setF q T := by
  unfold setF
  congr 1
  exact List.filter_congr fun k hk => h k (List.mem_range.1 hk)
theorem bit_of (p : Nat → Bool) : ∀ T : Nat, ∃ b, b < 2 ^ T ∧ ∀ k, k < T → bitN b k = p k
  | 0 => ⟨0, by simp, fun k hk => by omega⟩
  | T + 1 => by
    obtain ⟨b, hb, h⟩ := bit_of p T
    have hp : 2 ^ (T + 1) = 2 * 2 ^ T := by rw [Nat.pow_succ, Nat.mul_comm]
    cases hT : p T with
    | false =>
      refine ⟨b, by omega, fun k hk => ?_⟩
      rcases Nat.lt_or_ge k T with h1 | h1
      · exact h k h1
      · obtain rfl : k = T := by omega
        rw [hT]
        unfold bitN
        rw [Nat.div_eq_of_lt hb]; rfl
    | true =>
      refine ⟨b + 2 ^ T, by omega, fun k hk => ?_⟩
      rcases Nat.lt_or_ge k T with h1 | h1
      · rw [← h k h1]
        unfold bitN
        obtain ⟨d, rfl⟩ : ∃ d, T = k + 1 + d := ⟨T - k - 1, by omega⟩
        have e : 2 ^ (k + 1 + d) = 2 ^ k * (2 * 2 ^ d) := by rw [Nat.pow_add, Nat.pow_succ, Nat.mul_assoc]
        rw [e, Nat.add_mul_div_left _ _ (Nat.two_pow_pos k), Nat.add_mul_mod_self_left]
      · obtain rfl : k = T := by omega
        rw [hT]
        unfold bitN
        rw [Nat.add_div_right _ (Nat.two_pow_pos k), Nat.div_eq_of_lt hb]; rfl
theorem setF_sets (p : Nat → Bool) (T : Nat) : setF p T ∈ setsS T := by
  obtain ⟨b, hb, h⟩ := bit_of p T
  refine (setsS_perm T).mem_iff.2 (List.mem_map.2 ⟨b, List.mem_range.2 hb, ?_⟩)
  exact setF_congr h
theorem sets_setF {T : Nat} {s : List Int} (h : s ∈ setsS T) : ∃ p, s = setF p T := by
  obtain ⟨b, _, rfl⟩ := List.mem_map.1 ((setsS_perm T).mem_iff.1 h)
  exact ⟨bitN b, rfl⟩
theorem setF_incr (p : Nat → Bool) (T : Nat) : (setF p T).Pairwise (· < ·) := by
  unfold setF
  rw [List.pairwise_map]
  exact (List.pairwise_lt_range.filter p).imp fun h => by omega

/-! In the order of lists. -/
theorem cmpL_le {k : Nat} : ∀ {a b : List Int} {n : Nat}, a.length = b.length → (cmpL a b < 0 ∨ a = b) → (∀ j, j < n → a.getD j 0 = b.getD j 0) → n < a.length → a.getD n 0 ≤ b.getD n 0
  | [], _, n, _, _, _, hn => by simp at hn
  | x :: a, [], n, hl, _, _, _ => by simp at hl
  | x :: a, y :: b, n, hl, h, hp, hn => by
    rcases h with h | h
    · unfold cmpL at h
      cases n with
      | zero =>
        simp only [List.getD_cons_zero]
        by_cases e : cmpI x y = 0
        · have := cmpI_zero.1 e; omega
        · rw [if_pos e] at h
          have := cmpI_neg.1 h; omega
      | succ n =>
        have h0 := hp 0 (by omega)
        simp only [List.getD_cons_zero] at h0
        subst h0
        rw [if_neg (by rw [cmpI_zero.2 rfl]; simp)] at h
        simp only [List.getD_cons_succ]
        exact cmpL_le (k := k) (by simpa using hl) (.inl h) (fun j hj => by have := hp (j + 1) (by omega); simpa using this) (by simpa using hn)
    · rw [h]; exact Int.le_refl _
theorem vecs_lex : ∀ (L : List (List Int)), (∀ l ∈ L, l.Pairwise (· < ·)) → (vecs L).Pairwise (fun a b => cmpL a b < 0)
  | [], _ => by simp [vecs]
  | l :: r, h => by
    unfold vecs
    rw [List.pairwise_flatMap]
    refine ⟨fun v hv => ?_, (h l (by simp)).imp fun {v u} hvu a ha b hb => ?_⟩
    · rw [List.pairwise_map]
      refine (vecs_lex r fun q hq => h q (by simp [hq])).imp fun {a b} hab => ?_
      unfold cmpL
      rw [if_neg (by rw [cmpI_zero.2 rfl]; simp)]
      exact hab
    · obtain ⟨a', _, rfl⟩ := List.mem_map.1 ha
      obtain ⟨b', _, rfl⟩ := List.mem_map.1 hb
      unfold cmpL
      have := cmpI_neg.2 hvu
      rw [if_pos (by omega)]
      exact this

/-! Values that are free at some places. -/
def FreeAt (p : Nat → Bool) (x y : List Int) : Prop := y.length = x.length ∧ ∀ k, k < x.length → (p k = true → 0 ≤ y.getD k 0 ∧ y.getD k 0 ≤ 1000000) ∧ (p k = false → y.getD k 0 = x.getD k 0)
theorem freeL_getD {p : Nat → Bool} {x : List Int} {k : Nat} (hk : k < x.length) : (freeL x (setF p x.length)).getD k default = if p k = true then ⟨0, 1000000⟩ else ⟨x.getD k 0, x.getD k 0⟩ := by
  unfold freeL
  rw [getD_lt _ _ (by simpa using hk)]
  simp only [List.getElem_map, List.getElem_range]
  unfold freeS
  cases hp : p k with
  | true => rw [if_pos (setF_mem.2 ⟨hk, hp⟩)]; simp
  | false => rw [if_neg (fun h => by have := (setF_mem.1 h).2; rw [hp] at this; cases this)]; simp
theorem free_step {m : Mdl} {x y : List Int} {p : Nat → Bool} (hm : mdlB m = true) (hx : valsB m.traits x = true) (h : FreeAt p x y) :
    ∃ v ∈ vecs (stepsL m (freeL x (setF p x.length))), scoreM m v = scoreM m y ∧ v.length = x.length ∧ ∀ k, k < x.length → v.getD k 0 ≤ y.getD k 0 ∧ (y.getD k 0 ∈ (stepsL m (freeL x (setF p x.length))).getD k [] → v.getD k 0 = y.getD k 0) := by
  obtain ⟨hl, h⟩ := h
  have hxl := (valsB_iff.1 hx).1
  have hfl : (freeL x (setF p x.length)).length = x.length := freeL_len _ _
  have hb : ∀ k, k < x.length → ((freeL x (setF p x.length)).getD k default).lo ≤ y.getD k 0 ∧ y.getD k 0 ≤ ((freeL x (setF p x.length)).getD k default).hi := fun k hk => by
    rw [freeL_getD hk]
    cases hp : p k with
    | true => rw [if_pos rfl]; exact (h k hk).1 hp
    | false => have := (h k hk).2 hp; rw [if_neg (by decide)]; dsimp only; omega
  have hc : ∀ k, k < x.length → ∃ u ∈ stepsI ((freeL x (setF p x.length)).getD k default).lo ((freeL x (setF p x.length)).getD k default).hi (cutsT m k), u ≤ y.getD k 0 ∧ ((freeL x (setF p x.length)).getD k default).lo ≤ u ∧ ∀ c ∈ cutsT m k, (c ≤ u ↔ c ≤ y.getD k 0) :=
    fun k hk => step_of _ _ _ _ (hb k hk).1 (hb k hk).2
  obtain ⟨f, hf⟩ : ∃ f : Nat → Int, ∀ k, k < x.length → f k ∈ stepsI ((freeL x (setF p x.length)).getD k default).lo ((freeL x (setF p x.length)).getD k default).hi (cutsT m k) ∧ f k ≤ y.getD k 0 ∧ ((freeL x (setF p x.length)).getD k default).lo ≤ f k ∧ ∀ c ∈ cutsT m k, (c ≤ f k ↔ c ≤ y.getD k 0) := by
    refine ⟨fun k => if hk : k < x.length then Classical.choose (hc k hk) else 0, fun k hk => ?_⟩
    simp only [dif_pos hk]
    have := Classical.choose_spec (hc k hk)
    exact ⟨this.1, this.2⟩
  have hg : ∀ k, k < x.length → ((List.range x.length).map f).getD k 0 = f k := fun k hk => by
    rw [getD_lt _ _ (by simpa using hk)]; simp
  refine ⟨(List.range x.length).map f, (vecs_iff _ _).2 ⟨by rw [stepsL_len, hfl]; simp, fun k hk => ?_⟩, ?_, by simp, fun k hk => ?_⟩
  · rw [stepsL_len, hfl] at hk
    rw [stepsL_getD (by rw [hfl]; exact hk), hg k hk]
    exact (hf k hk).1
  · refine score_same hm (by rw [List.length_map, List.length_range]; exact hxl) fun k hk => ?_
    rw [List.length_map, List.length_range] at hk
    rw [hg k hk]
    obtain ⟨_, f2, f3, f4⟩ := hf k hk
    refine ⟨?_, f4⟩
    rw [freeL_getD hk] at f3
    cases hp : p k with
    | true => rw [hp, if_pos rfl] at f3; dsimp only at f3; have := (h k hk).1 hp; omega
    | false => rw [hp, if_neg (by decide)] at f3; dsimp only at f3; have := (h k hk).2 hp; omega
  · rw [hg k hk]
    obtain ⟨_, f2, f3, f4⟩ := hf k hk
    refine ⟨f2, fun hmem => ?_⟩
    rw [stepsL_getD (by rw [hfl]; exact hk), stepsI_mem] at hmem
    rcases hmem with e | ⟨e, _⟩
    · omega
    · have := (f4 _ e).2 (Int.le_refl _); omega
theorem free_within {m : Mdl} {x v : List Int} {p : Nat → Bool} (h : v ∈ vecs (stepsL m (freeL x (setF p x.length)))) : FreeAt p x v := by
  obtain ⟨h1, h2⟩ := (vecs_iff _ _).1 h
  rw [stepsL_len, freeL_len] at h1 h2
  refine ⟨h1, fun k hk => ?_⟩
  have h3 := h2 k hk
  rw [stepsL_getD (by rw [freeL_len]; exact hk), stepsI_mem, freeL_getD hk] at h3
  cases hp : p k with
  | true =>
    rw [hp, if_pos rfl] at h3
    dsimp only at h3
    refine ⟨fun _ => ?_, fun e => by cases e⟩
    rcases h3 with e | ⟨_, e⟩
    · omega
    · unfold spanIn at e; simp only [Bool.and_eq_true, decide_eq_true_eq] at e; omega
  | false =>
    rw [hp, if_neg (by decide)] at h3
    dsimp only at h3
    refine ⟨fun e => (by cases e), fun _ => ?_⟩
    rcases h3 with e | ⟨_, e⟩
    · exact e
    · unfold spanIn at e; simp only [Bool.and_eq_true, decide_eq_true_eq] at e; omega
end Go.Proofs.YtkimojiakabbcaaGreat

namespace Go.Proofs.YtkimojiakabbcaaGreat

/-- What the reasons are, if there are some. -/
structure Reas (m : Mdl) (x s v : List Int) (p : Nat → Bool) (y0 : List Int) : Prop where
  set : s = setF p x.length
  vals : v = pickV s y0
  mem : y0 ∈ vecs (stepsL m (freeL x s))
  other : wasB m.need (scoreM m y0) ≠ wasB m.need (scoreM m x)
  first : ∀ u ∈ vecs (stepsL m (freeL x s)), wasB m.need (scoreM m u) ≠ wasB m.need (scoreM m x) → u = y0 ∨ cmpL y0 u < 0
  least : ∀ t ∈ setsS x.length, cmpS t s < 0 → ∀ u ∈ vecs (stepsL m (freeL x t)), wasB m.need (scoreM m u) = wasB m.need (scoreM m x)
theorem stepsL_incr (m : Mdl) (x : List Spn) : ∀ l ∈ stepsL m x, l.Pairwise (· < ·) := fun l hl => by
  unfold stepsL at hl
  obtain ⟨k, _, rfl⟩ := List.mem_map.1 hl
  exact stepsI_incr _ _ _
theorem reas_of {m : Mdl} {x s v : List Int} (h : reaR m x = some (s, v)) : ∃ p y0, Reas m x s v p y0 := by
  unfold reaR reasR at h
  obtain ⟨l1, s', l2, hl, hs, hn⟩ := List.findSome?_eq_some_iff.1 h
  unfold firstR at hs
  cases hf : (vecs (stepsL m (freeL x s'))).find? (fun y => wasB m.need (scoreM m y) != wasB m.need (scoreM m x)) with
  | none => rw [hf] at hs; cases hs
  | some y0 =>
    rw [hf] at hs
    simp only [Option.map_some, Option.some.injEq, Prod.mk.injEq] at hs
    obtain ⟨rfl, hv⟩ := hs
    obtain ⟨hp0, la, lb, hab, has⟩ := List.find?_eq_some_iff_append.1 hf
    have hmem : s' ∈ setsS x.length := by rw [hl]; simp
    obtain ⟨p, hp⟩ := sets_setF hmem
    have hlex := vecs_lex _ (stepsL_incr m (freeL x s'))
    refine ⟨p, y0, hp, hv.symm, by rw [hab]; simp, by simpa using hp0, fun u hu hne => ?_, fun t ht hlt u hu => ?_⟩
    · rw [hab] at hu hlex
      rcases List.mem_append.1 hu with h1 | h1
      · have := has u h1
        simp only [Bool.not_eq_true', bne_eq_false_iff_eq] at this
        exact absurd this hne
      · rcases List.mem_cons.1 h1 with h2 | h2
        · exact .inl h2
        · exact .inr ((List.pairwise_cons.1 (List.pairwise_append.1 hlex).2.1).1 u h2)
    · have hso := setsS_sorted x.length
      rw [hl] at ht hso
      rcases List.mem_append.1 ht with h1 | h1
      · have h2 := hn t h1
        unfold firstR at h2
        simp only [Option.map_eq_none_iff, List.find?_eq_none, bne_iff_ne, ne_eq, Decidable.not_not] at h2
        exact h2 u hu
      · rcases List.mem_cons.1 h1 with h2 | h2
        · rw [h2] at hlt; exact absurd hlt (cmpS_irrefl _)
        · exact absurd hlt (cmpS_asymm ((List.pairwise_cons.1 (List.pairwise_append.1 hso).2.1).1 t h2))
theorem reas_none {m : Mdl} {x : List Int} (h : reaR m x = none) : ∀ t ∈ setsS x.length, ∀ u ∈ vecs (stepsL m (freeL x t)), wasB m.need (scoreM m u) = wasB m.need (scoreM m x) := fun t ht u hu => by
  unfold reaR reasR at h
  have h2 := List.findSome?_eq_none_iff.1 h t ht
  unfold firstR at h2
  simp only [Option.map_eq_none_iff, List.find?_eq_none, bne_iff_ne, ne_eq, Decidable.not_not] at h2
  exact h2 u hu
section
variable {m : Mdl} {x : List Int}
/-- Values by which the answer is another one: no smaller set, and none that comes before, has some. -/
theorem reas_least {s v : List Int} {p : Nat → Bool} {y0 : List Int} (h : Reas m x s v p y0) (hm : mdlB m = true) (hx : valsB m.traits x = true) {q : Nat → Bool} {y : List Int} (hy : FreeAt q x y) (hne : wasB m.need (scoreM m y) ≠ wasB m.need (scoreM m x)) : ¬ cmpS (setF q x.length) s < 0 := fun hlt => by
  obtain ⟨u, hu, he, _⟩ := free_step hm hx hy
  have := h.least _ (setF_sets q x.length) hlt u hu
  rw [he] at this
  exact hne this
/-- What is told differs from what is so. -/
theorem reas_ne {s v : List Int} {p : Nat → Bool} {y0 : List Int} (h : Reas m x s v p y0) (hm : mdlB m = true) (hx : valsB m.traits x = true) {k : Nat} (hk : k < x.length) (hp : p k = true) : y0.getD k 0 ≠ x.getD k 0 := fun he => by
  have hmem := h.mem
  rw [h.set] at hmem
  have hf := free_within hmem
  have hq : FreeAt (fun j => p j && decide (j ≠ k)) x y0 := by
    refine ⟨hf.1, fun j hj => ⟨fun hpj => ?_, fun hpj => ?_⟩⟩
    · simp only [Bool.and_eq_true] at hpj; exact (hf.2 j hj).1 hpj.1
    · by_cases hjk : j = k
      · subst hjk; exact he
      · refine (hf.2 j hj).2 ?_
        have e : (p j && decide (j ≠ k)) = false := hpj
        rw [decide_eq_true hjk, Bool.and_true] at e
        exact e
  refine reas_least h hm hx hq h.other ?_
  have hlen : (setF (fun j => p j && decide (j ≠ k)) x.length).length < s.length := by
    rw [h.set]
    unfold setF
    rw [List.length_map, List.length_map]
    have e : (List.range x.length).filter (fun j => p j && decide (j ≠ k)) = ((List.range x.length).filter p).filter (fun j => decide (j ≠ k)) := by rw [List.filter_filter]; exact List.filter_congr fun j _ => Bool.and_comm _ _
    rw [e]
    exact List.length_filter_lt_length_iff_exists.2 ⟨k, List.mem_filter.2 ⟨List.mem_range.2 hk, hp⟩, by simp⟩
  unfold cmpS
  have : cmpI ((setF (fun j => p j && decide (j ≠ k)) x.length).length : Int) s.length < 0 := cmpI_neg.2 (by omega)
  rw [if_pos (by omega)]
  exact this
/-- Among the values of the same set none come before. -/
theorem reas_first {s v : List Int} {p : Nat → Bool} {y0 : List Int} (h : Reas m x s v p y0) (hm : mdlB m = true) (hx : valsB m.traits x = true) {y : List Int} (hy : FreeAt p x y) (hne : wasB m.need (scoreM m y) ≠ wasB m.need (scoreM m x)) {k : Nat} (hk : k < x.length) (hbefore : ∀ j, j < k → y.getD j 0 = y0.getD j 0) (hd : y.getD k 0 ≠ y0.getD k 0) : y0.getD k 0 < y.getD k 0 := by
  have hmem := h.mem
  rw [h.set] at hmem
  obtain ⟨u, hu, he, hul, huy⟩ := free_step hm hx hy
  have hst : ∀ j, j < x.length → y0.getD j 0 ∈ (stepsL m (freeL x (setF p x.length))).getD j [] := fun j hj => ((vecs_iff _ _).1 hmem).2 j (by rw [stepsL_len, freeL_len]; exact hj)
  have h1 := h.first u (by rw [h.set]; exact hu) (by rw [he]; exact hne)
  have hy0l : y0.length = x.length := (free_within hmem).1
  have h2 := cmpL_le (k := k) (a := y0) (b := u) (n := k) (by omega) (h1.symm.imp id fun e => e.symm) (fun j hj => by
    have hj2 : j < x.length := by omega
    have := (huy j hj2).2 (by rw [hbefore j hj]; exact hst j hj2)
    rw [this, hbefore j hj]) (by omega)
  have := (huy k hk).1
  omega
end
end Go.Proofs.YtkimojiakabbcaaGreat
