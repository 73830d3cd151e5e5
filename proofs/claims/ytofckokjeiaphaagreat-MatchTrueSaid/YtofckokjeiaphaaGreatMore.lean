/- With rules that allow more, records agree no less; and a record agrees with itself. -/
import Derived.Test.YtofckokjeiaphaaGreatSym
namespace Go.Proofs.YtofckokjeiaphaaGreat
open Go.RowKit

section
variable (g : ByteArray → ByteArray → Bool)
theorem subs_drop : ∀ (ys xs : List ByteArray) (x : ByteArray), (subs g (x :: xs) ys = true → subs g xs ys = true) ∧ ∀ y, subs g xs ys = true → subs g xs (y :: ys) = true
  | [], xs, _ => by
    refine ⟨fun h => ?_, fun y h => ?_⟩
    · cases h
    · cases xs with
      | nil => rfl
      | cons x' xs' => cases h
  | z :: ys, xs, x => by
    have P : ∀ (xs : List ByteArray) (x : ByteArray), subs g (x :: xs) (z :: ys) = true → subs g xs (z :: ys) = true := fun xs x h => by
      rw [subs] at h
      split at h
      · exact (subs_drop ys xs x).2 z h
      · exact (subs_drop ys xs x).2 z ((subs_drop ys xs x).1 h)
    refine ⟨P xs x, fun y h => ?_⟩
    cases xs with
    | nil => rfl
    | cons x' xs' =>
      rw [subs]
      split
      · exact P xs' x' h
      · exact h
theorem subs_mono {f : ByteArray → ByteArray → Bool} (h : ∀ x y, f x y = true → g x y = true) : ∀ (ys xs : List ByteArray), subs f xs ys = true → subs g xs ys = true
  | _, [], _ => by simp [subs]
  | [], x :: xs, hs => by cases hs
  | y :: ys, x :: xs, hs => by
    rw [subs] at hs ⊢
    by_cases hf : f x y = true
    · rw [if_pos hf] at hs
      rw [if_pos (h x y hf)]
      exact subs_mono h ys xs hs
    · rw [if_neg hf] at hs
      have h2 := subs_mono h ys (x :: xs) hs
      split
      · exact (subs_drop g ys xs x).1 h2
      · exact h2
theorem subs_self (hg : ∀ x, g x x = true) : ∀ l : List ByteArray, subs g l l = true
  | [] => rfl
  | x :: l => by rw [subs, if_pos (hg x)]; exact subs_self hg l
end

theorem fitL_mono {n n' : Int} (h : n ≤ n') (x y : ByteArray) (hf : fitL n x y = true) : fitL n' x y = true := by
  simp only [fitL, Bool.or_eq_true, Bool.and_eq_true, decide_eq_true_eq] at hf ⊢
  rcases hf with hf | ⟨h1, h2⟩
  · exact .inl hf
  · exact .inr ⟨by omega, by omega⟩
theorem fitL_self (n : Int) (x : ByteArray) : fitL n x x = true := by simp [fitL, sameW]

theorem namesF_mono {n n' : Int} (h : n ≤ n') (l m : List ByteArray) : namesF n l m ≤ namesF n' l m ∧ (namesF n l m = 3 ↔ namesF n' l m = 3) ∧ (namesF n l m = 0 ∨ namesF n l m = 2 ∨ namesF n l m = 3) ∧ (namesF n' l m = 0 ∨ namesF n' l m = 2 ∨ namesF n' l m = 3) := by
  have hm := subs_mono (fitL n') (f := fitL n) (fun x y => fitL_mono h x y) m.tail l.tail
  unfold namesF
  by_cases h1 : l.head? = m.head? ∧ subs (fitL (-1)) l.tail m.tail = true
  · simp [if_pos h1]
  · rw [if_neg h1, if_neg h1]
    by_cases h2 : (lev (l.head?.getD ByteArray.empty).data.toList (m.head?.getD ByteArray.empty).data.toList : Int) ≤ n ∧ subs (fitL n) l.tail m.tail = true
    · rw [if_pos h2, if_pos ⟨by omega, hm h2.2⟩]; simp
    · rw [if_neg h2]
      split <;> simp
theorem namesS_mono {n n' : Int} (h : n ≤ n') (l m : List ByteArray) : namesS n l m ≤ namesS n' l m ∧ (namesS n l m = 3 ↔ namesS n' l m = 3) ∧ (namesS n l m = 0 ∨ namesS n l m = 2 ∨ namesS n l m = 3) ∧ (namesS n' l m = 0 ∨ namesS n' l m = 2 ∨ namesS n' l m = 3) := by
  unfold namesS
  split
  · exact namesF_mono h m l
  · exact namesF_mono h l m
theorem numS_mono {n n' : Int} (h : n ≤ n') (a b : ByteArray) : numS n a b ≤ numS n' a b ∧ (numS n a b = 3 ↔ numS n' a b = 3) ∧ (0 ≤ numS n a b ∧ numS n a b ≤ 3) ∧ (0 ≤ numS n' a b ∧ numS n' a b ≤ 3) := by
  unfold numS
  split
  · simp
  · split
    · simp
    · split
      · rw [if_pos (by omega)]; simp
      · split <;> simp
theorem birS_mono {n n' : Int} (h : n ≤ n') (a b c d : Int) : birS n a b c d ≤ birS n' a b c d ∧ (birS n a b c d = 3 ↔ birS n' a b c d = 3) ∧ (0 ≤ birS n a b c d ∧ birS n a b c d ≤ 3) ∧ (0 ≤ birS n' a b c d ∧ birS n' a b c d ≤ 3) := by
  unfold birS
  split
  · simp
  · split
    · rw [if_pos (by omega)]; simp
    · split <;> simp
theorem placesF_vals (n : Int) (l m : List Stay) : placesF n l m = 1 ∨ placesF n l m = 3 := by unfold placesF; split <;> simp
theorem oneF_vals (n k b p sa sb : Int) (ta tb : Bool) : oneF n k b p sa sb ta tb = 0 ∨ oneF n k b p sa sb ta tb = 1 ∨ oneF n k b p sa sb ta tb = 2 := by
  unfold oneF; split
  · simp
  · split <;> simp

theorem oneF_mono {n n' k k' b b' p sa sb : Int} {ta tb : Bool} (hn : n ≤ n') (hn3 : n = 3 ↔ n' = 3) (hk : k ≤ k') (hk3 : k = 3 ↔ k' = 3) (hb : b ≤ b') (hb3 : b = 3 ↔ b' = 3) (n0 : 0 ≤ n) (k0 : 0 ≤ k) (b0 : 0 ≤ b) :
    oneF n k b p sa sb ta tb ≤ oneF n' k' b' p sa sb ta tb := by
  unfold oneF
  by_cases h1 : b = 0 ∨ (sa ≠ 0 ∧ sb ≠ 0 ∧ sa ≠ sb) ∨ (n = 0 ∧ k ≠ 3) ∨ (k = 0 ∧ p ≠ 3) ∨ ((ta = true ∨ tb = true) ∧ k ≠ 3 ∧ n ≠ 3)
  · rw [if_pos h1]
    split
    · omega
    · split <;> omega
  · have h1' : ¬ (b' = 0 ∨ (sa ≠ 0 ∧ sb ≠ 0 ∧ sa ≠ sb) ∨ (n' = 0 ∧ k' ≠ 3) ∨ (k' = 0 ∧ p ≠ 3) ∨ ((ta = true ∨ tb = true) ∧ k' ≠ 3 ∧ n' ≠ 3)) := fun h => h1 (by
      rcases h with h | h | h | h | h
      · left; omega
      · right; left; exact h
      · right; right; left; omega
      · right; right; right; left; omega
      · right; right; right; right; exact ⟨h.1, by omega, by omega⟩)
    rw [if_neg h1, if_neg h1']
    by_cases h2 : (k = 3 ∧ 2 ≤ n) ∨ (n = 3 ∧ b = 3 ∧ p = 3 ∧ ta = false ∧ tb = false)
    · rw [if_pos h2, if_pos (by
        rcases h2 with h | h
        · left; omega
        · right; exact ⟨by omega, by omega, h.2.2⟩)]
      omega
    · rw [if_neg h2]; split <;> omega

/-- Rules that allow no less, with the same Together. -/
structure Wider (u v : Rul) : Prop where
  l : u.l ≤ v.l
  d : u.d ≤ v.d
  y : u.y ≤ v.y
  t : u.t = v.t

theorem matF_mono {u v : Rul} (h : Wider u v) (r s : Rec) :
    (matF u r s).names ≤ (matF v r s).names ∧ (matF u r s).num ≤ (matF v r s).num ∧ (matF u r s).born ≤ (matF v r s).born ∧ (matF u r s).place = (matF v r s).place ∧ (matF u r s).one ≤ (matF v r s).one := by
  obtain ⟨n1, n2, n3, _⟩ := namesS_mono h.l r.names s.names
  obtain ⟨k1, k2, k3, _⟩ := numS_mono h.d r.num s.num
  obtain ⟨b1, b2, b3, _⟩ := birS_mono h.y r.lo r.hi s.lo s.hi
  refine ⟨n1, k1, b1, ?_, ?_⟩
  · show placesF u.t r.stays s.stays = placesF v.t r.stays s.stays
    rw [h.t]
  · show oneF _ _ _ (placesF u.t r.stays s.stays) _ _ _ _ ≤ oneF _ _ _ (placesF v.t r.stays s.stays) _ _ _ _
    rw [h.t]
    exact oneF_mono n1 n2 k1 k2 b1 b2 (by omega) k3.1 b3.1

theorem namesF_self (n : Int) (l : List ByteArray) : namesF n l l = 3 := by
  unfold namesF; rw [if_pos ⟨rfl, subs_self _ (fitL_self _) _⟩]
theorem namesS_self (n : Int) (l : List ByteArray) : namesS n l l = 3 := by
  unfold namesS; rw [namesF_self]; simp
theorem diffs_self (a : ByteArray) (k : Nat) : diffs a a k = 0 := by simp [diffs]
theorem numS_self (n : Int) (a : ByteArray) : numS n a a = if a.toList.isEmpty = true then 1 else 3 := by
  unfold numS
  by_cases h : a.toList.isEmpty = true
  · rw [if_pos (.inl h), if_pos h]
  · rw [if_neg (by simp [h]), if_pos (diffs_self a 9), if_neg h]
theorem matF_self {u : Rul} {r : Rec} (hu : 0 ≤ u.y) (hr : r.lo ≤ r.hi) : (matF u r r).names = 3 ∧ (matF u r r).num = (if r.num.toList.isEmpty = true then 1 else 3) ∧ (matF u r r).one ≠ 0 := by
  refine ⟨namesS_self _ _, numS_self _ _, ?_⟩
  show oneF (namesS u.l r.names r.names) (numS u.d r.num r.num) (birS u.y r.lo r.hi r.lo r.hi) _ _ _ _ _ ≠ 0
  have hb : birS u.y r.lo r.hi r.lo r.hi ≠ 0 := by
    unfold birS; split
    · omega
    · rw [if_pos (by omega)]; omega
  have hk : numS u.d r.num r.num ≠ 0 := by rw [numS_self]; split <;> omega
  rw [namesS_self]
  unfold oneF
  rw [if_neg (by
    rintro (h | h | h | h | h)
    · exact hb h
    · exact h.2.2 rfl
    · omega
    · exact hk h.1
    · exact h.2.2 rfl)]
  split <;> omega

/-! Twins and juniors are told from each other, and households kept apart: what follows of how much two records agree. -/

theorem numS_three {n : Int} {a b : ByteArray} (ha : a.toList.isEmpty = false → a.size = 9) (hb : b.toList.isEmpty = false → b.size = 9) (h : numS n a b = 3) : a.toList.isEmpty = false ∧ b.toList.isEmpty = false ∧ a.toList = b.toList := by
  unfold numS at h
  split at h
  · omega
  · rename_i h0
    simp only [not_or, Bool.not_eq_true] at h0
    split at h
    · rename_i hd
      exact ⟨h0.1, h0.2, (diffs_eq a b (ha h0.1) (hb h0.2)).1 hd⟩
    · split at h <;> omega

theorem one_far {u : Rul} {r s : Rec} (hy : 0 ≤ u.y) (h : r.hi < s.lo - u.y ∨ s.hi < r.lo - u.y) : (matF u r s).one = 0 := by
  show oneF _ _ (birS u.y r.lo r.hi s.lo s.hi) _ _ _ _ _ = 0
  have hb : birS u.y r.lo r.hi s.lo s.hi = 0 := by
    unfold birS
    rw [if_neg (by omega), if_neg (by omega)]
  unfold oneF
  rw [if_pos (.inl hb)]
theorem one_suffix {u : Rul} {r s : Rec} (h1 : r.suf ≠ 0) (h2 : s.suf ≠ 0) (h3 : r.suf ≠ s.suf) : (matF u r s).one = 0 := by
  show oneF _ _ _ _ r.suf s.suf _ _ = 0
  unfold oneF
  rw [if_pos (.inr (.inl ⟨h1, h2, h3⟩))]
theorem one_twin {u : Rul} {r s : Rec} (ht : r.twin = true ∨ s.twin = true) (hk : (matF u r s).num ≠ 3) (hn : (matF u r s).names ≠ 3) : (matF u r s).one = 0 := by
  show oneF _ _ _ _ _ _ _ _ = 0
  unfold oneF
  rw [if_pos (.inr (.inr (.inr (.inr ⟨ht, hk, hn⟩))))]
theorem one_sure {u : Rul} {r s : Rec} (h : (matF u r s).one = 2) (hk : (matF u r s).num ≠ 3) : (matF u r s).names = 3 ∧ r.lo = s.lo ∧ r.hi = s.hi ∧ r.lo = r.hi ∧ r.twin = false ∧ s.twin = false := by
  have h' : oneF (matF u r s).names (matF u r s).num (matF u r s).born (matF u r s).place r.suf s.suf r.twin s.twin = 2 := h
  unfold oneF at h'
  split at h'
  · omega
  · split at h'
    · rename_i h2
      rcases h2 with h2 | h2
      · exact absurd h2.1 hk
      · have hb : birS u.y r.lo r.hi s.lo s.hi = 3 := h2.2.1
        unfold birS at hb
        split at hb
        · rename_i hh
          exact ⟨h2.1, hh.2.1, hh.2.2, hh.1, h2.2.2.2.1, h2.2.2.2.2⟩
        · split at hb <;> omega
    · omega
theorem num_of {u : Rul} {r s : Rec} (hr : recB r = true) (hs : recB s = true) (h : r.num.toList.isEmpty = true ∨ (r.num.toList == s.num.toList) = false) : (matF u r s).num ≠ 3 := fun e => by
  obtain ⟨h1, _, h3⟩ := numS_three (recB_parts hr).2.2.2.2.1 (recB_parts hs).2.2.2.2.1 (show numS u.d r.num s.num = 3 from e)
  rcases h with h | h
  · rw [h1] at h; cases h
  · rw [h3] at h; simp at h
theorem one_range (u : Rul) (r s : Rec) : 0 ≤ (matF u r s).one ∧ (matF u r s).one ≤ 2 := by
  rcases oneF_vals (matF u r s).names (matF u r s).num (matF u r s).born (matF u r s).place r.suf s.suf r.twin s.twin with h | h | h
  all_goals
    have h' : (matF u r s).one = _ := h
    rw [h']; omega

theorem oneF_place (n k b sa sb : Int) (ta tb : Bool) : oneF n k b 1 sa sb ta tb ≤ oneF n k b 3 sa sb ta tb := by
  unfold oneF
  by_cases h1 : b = 0 ∨ (sa ≠ 0 ∧ sb ≠ 0 ∧ sa ≠ sb) ∨ (n = 0 ∧ k ≠ 3) ∨ (k = 0 ∧ (1 : Int) ≠ 3) ∨ ((ta = true ∨ tb = true) ∧ k ≠ 3 ∧ n ≠ 3)
  · rw [if_pos h1]
    split
    · omega
    · split <;> omega
  · have h3 : ¬ (b = 0 ∨ (sa ≠ 0 ∧ sb ≠ 0 ∧ sa ≠ sb) ∨ (n = 0 ∧ k ≠ 3) ∨ (k = 0 ∧ (3 : Int) ≠ 3) ∨ ((ta = true ∨ tb = true) ∧ k ≠ 3 ∧ n ≠ 3)) := fun h => h1 (by
      rcases h with h | h | h | h | h
      · exact .inl h
      · exact .inr (.inl h)
      · exact .inr (.inr (.inl h))
      · exact absurd rfl h.2
      · exact .inr (.inr (.inr (.inr h))))
    rw [if_neg h1, if_neg h3]
    by_cases h2 : (k = 3 ∧ 2 ≤ n) ∨ (n = 3 ∧ b = 3 ∧ (1 : Int) = 3 ∧ ta = false ∧ tb = false)
    · rw [if_pos h2, if_pos (by
        rcases h2 with h | h
        · exact .inl h
        · omega)]
      omega
    · rw [if_neg h2]; split <;> omega

/-- The record without its stays. -/
def lone (r : Rec) : Rec := { r with stays := [] }
theorem lone_recB {r : Rec} (h : recB r = true) : recB (lone r) = true := by
  simp only [recB, Bool.and_eq_true] at h ⊢
  exact ⟨h.1, by simp [lone, staysB]⟩
theorem matF_lone (u : Rul) (r s : Rec) : (matF u (lone r) s).place = 1 ∧ (matF u (lone r) s).one ≤ (matF u r s).one ∧ (matF u (lone r) s).names = (matF u r s).names ∧ (matF u (lone r) s).num = (matF u r s).num ∧ (matF u (lone r) s).born = (matF u r s).born := by
  have hp : placesF u.t (lone r).stays s.stays = 1 := by simp [placesF, placesB, lone]
  refine ⟨hp, ?_, rfl, rfl, rfl⟩
  show oneF (matF u r s).names (matF u r s).num (matF u r s).born (placesF u.t (lone r).stays s.stays) r.suf s.suf r.twin s.twin ≤ oneF (matF u r s).names (matF u r s).num (matF u r s).born (matF u r s).place r.suf s.suf r.twin s.twin
  rw [hp]
  rcases placesF_vals u.t r.stays s.stays with h | h
  · rw [show (matF u r s).place = 1 from h]; exact Int.le_refl _
  · rw [show (matF u r s).place = 3 from h]
    exact oneF_place _ _ _ _ _ _ _

end Go.Proofs.YtofckokjeiaphaaGreat
