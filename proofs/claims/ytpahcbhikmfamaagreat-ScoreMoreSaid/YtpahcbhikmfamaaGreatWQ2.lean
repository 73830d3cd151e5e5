/- Points, by the reference. Written by a program. -/
import Derived.Test.YtpahcbhikmfamaaGreatSRef4

namespace Go.Proofs.YtpahcbhikmfamaaGreat
open Go.RowKit Go.Maps

theorem cntLe_snoc (l : List Int) (c v : Int) : cntLe (l ++ [c]) v = cntLe l v + (if c ≤ v then 1 else 0) := by
  unfold cntLe
  rw [List.filter_append, List.length_append]
  by_cases h : c ≤ v <;> simp [h]

theorem treGo_leaf {l : List Nod} {x : List Int} {f a : Nat} (h : (l.getD a default).tr = -1) : treGo l x (f + 1) a = (l.getD a default).pts := by rw [treGo, if_pos h]
theorem treGo_node {l : List Nod} {x : List Int} {f a : Nat} (h : ¬ (l.getD a default).tr = -1) : treGo l x (f + 1) a = if x.getD (l.getD a default).tr.toNat 0 < (l.getD a default).cut then treGo l x f (l.getD a default).low.toNat else treGo l x f (l.getD a default).high.toNat := by rw [treGo, if_neg h]
/-- A node that is no leaf. -/
theorem nodB_inner {n : Nat} {traits : Int} {i : Nat} {x : Nod} (h : nodB n traits i x = true) (ht : ¬ x.tr = -1) : 0 ≤ x.tr ∧ x.tr < traits ∧ (i : Int) + 1 ≤ x.low ∧ x.low < n ∧ (i : Int) + 1 ≤ x.high ∧ x.high < n := by
  rw [nodB_node ht] at h
  simp only [Bool.and_eq_true, inN_iff] at h
  omega

end Go.Proofs.YtpahcbhikmfamaaGreat

namespace Go.Proofs.YtpahcbhikmfamaaGreat
open Go.RowKit Go.Maps

theorem intInfo : (Tryz.prog.info? 3).map (fun i => (i.zero, i.size, i.bytes)) = some (some (.int .i64 0), 1, 8) := by kernel_rfl
theorem int_new (W : World) (n : Int) (t : TypeId) : ∀ j u, (intC n)[j]? = some u → (W.alloc (.cells #[.int .i64 n] t)).cell? ((⟨W.heap.size, 0, none⟩ : Addr).add j) = some u := fun j u hj => by
  have := (Blk.new W #[.int .i64 n] t).cell j
  rw [show ((⟨W.heap.size, 0, none⟩ : Addr).add j) = ⟨W.heap.size, j, none⟩ by rw [Addr.add]; simp; exact fun h => h.symm]
  refine this.trans ?_
  rw [← hj]; simp [intC]

theorem own_base {w : World} {base base' : Nat} {e : TypeId} {size : Nat} {v : Value} {n : Nat} {xs : List Value} (h : w.ownsRow base e size v n xs) (hb : base' ≤ base) : w.ownsRow base' e size v n xs := by
  refine ⟨h.1, ?_⟩
  rcases h.2 with h0 | ⟨g, cap, cur, h1, h2, h3, h4⟩
  · exact .inl h0
  · exact .inr ⟨g, cap, cur, h1, Nat.le_trans hb h2, h3, h4⟩

end Go.Proofs.YtpahcbhikmfamaaGreat

namespace Go.Proofs.YtpahcbhikmfamaaGreat
open Go.RowKit Go.Maps

theorem crdB_parts {traits : Int} {c : Crd} (h : crdB traits c = true) : (0 ≤ c.weight ∧ c.weight ≤ 1000) ∧ ptB c.base = true ∧ (c.scales.length : Int) = traits ∧ ∀ s ∈ c.scales, sclB s = true := by
  unfold crdB at h
  simp only [Bool.and_eq_true, decide_eq_true_eq, List.all_eq_true] at h
  exact ⟨inN_iff.1 h.1.1.1, h.1.1.2, h.1.2, h.2⟩
theorem treB_parts {traits : Int} {t : Tre} (h : treB traits t = true) : (0 ≤ t.weight ∧ t.weight ≤ 1000) ∧ (1 ≤ t.nodes.length ∧ t.nodes.length ≤ 7) ∧ ∀ i, i < t.nodes.length → nodB t.nodes.length traits i (t.nodes.getD i default) = true := by
  unfold treB at h
  simp only [Bool.and_eq_true, inN_iff, rangeB_iff] at h
  exact ⟨h.1.1, by omega, h.2⟩
theorem onCrd_bound {c : Crd} {x : List Int} (h : crdB x.length c = true) (hx : x.length ≤ 10) : -11000000 ≤ onCrd c x ∧ onCrd c x ≤ 11000000 := by
  obtain ⟨_, h2, h3, h4⟩ := crdB_parts h
  have h5 := sclsUp_bound h4 x c.scales.length (Nat.le_refl _)
  have h6 := ptB_iff.1 h2
  unfold onCrd
  omega
theorem treGo_bound {l : List Nod} {x : List Int} (h : ∀ i, i < l.length → (l.getD i default).tr = -1 → ptB (l.getD i default).pts = true) : ∀ f a, -1000000 ≤ treGo l x f a ∧ treGo l x f a ≤ 1000000
  | 0, _ => by simp [treGo]
  | f + 1, a => by
    by_cases ht : (l.getD a default).tr = -1
    · rw [treGo_leaf ht]
      rcases Nat.lt_or_ge a l.length with h1 | h1
      · exact ptB_iff.1 (h a h1 ht)
      · have e : l.getD a default = default := by simp [h1]
        rw [e] at ht
        cases ht
    · rw [treGo_node ht]
      split
      · exact treGo_bound h f _
      · exact treGo_bound h f _
theorem onTre_bound {t : Tre} {x : List Int} (h : treB x.length t = true) : -1000000 ≤ onTre t x ∧ onTre t x ≤ 1000000 :=
  treGo_bound (fun i hi ht => by
    have := (treB_parts h).2.2 i hi
    rw [nodB_leaf ht] at this
    simp only [Bool.and_eq_true] at this
    exact this.2) _ _
theorem mul_bound {w p : Int} (h1 : 0 ≤ w ∧ w ≤ 1000) (h2 : -11000000 ≤ p ∧ p ≤ 11000000) : -11000000000 ≤ w * p ∧ w * p ≤ 11000000000 := by
  have a1 := Int.mul_le_mul_of_nonneg_left h2.2 h1.1
  have a2 := Int.mul_le_mul_of_nonneg_left h2.1 h1.1
  omega
/-- What counts, part by part. -/
def prodL (m : Mdl) (x : List Int) : List Int := (m.cards.map fun c => c.weight * onCrd c x) ++ (m.trees.map fun t => t.weight * onTre t x)
theorem scoreM_eq (m : Mdl) (x : List Int) : scoreM m x = sumL (prodL m x) := rfl
theorem sumL_bound : ∀ (l : List Int), (∀ z ∈ l, -11000000000 ≤ z ∧ z ≤ 11000000000) → -(11000000000 * (l.length : Int)) ≤ sumL l ∧ sumL l ≤ 11000000000 * (l.length : Int)
  | [], _ => by simp [sumL]
  | z :: l, h => by
    have h1 := h z (by simp)
    have h2 := sumL_bound l fun y hy => h y (by simp [hy])
    rw [sumL, List.length_cons]
    omega

end Go.Proofs.YtpahcbhikmfamaaGreat
