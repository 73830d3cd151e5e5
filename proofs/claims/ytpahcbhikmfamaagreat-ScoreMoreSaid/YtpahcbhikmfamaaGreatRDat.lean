/- Reasons: sets of traits in order, the values that stand for all, the first of them: as data. -/
import Derived.Test.YtpahcbhikmfamaaGreatSBDat

namespace Go.Proofs.YtpahcbhikmfamaaGreat
open Go.RowKit Go.Maps

/-! Comparison of lists, and of sets: smaller ones first. -/
def cmpI (x y : Int) : Int := if x < y then -1 else if y < x then 1 else 0
def cmpL : List Int → List Int → Int
  | [], [] => 0
  | [], _ :: _ => -1
  | _ :: _, [] => 1
  | x :: a, y :: b => if cmpI x y ≠ 0 then cmpI x y else cmpL a b
def cmpS (a b : List Int) : Int := if cmpI a.length b.length ≠ 0 then cmpI a.length b.length else cmpL a b
theorem cmpI_neg {x y : Int} : cmpI x y < 0 ↔ x < y := by unfold cmpI; split <;> (try split) <;> omega
theorem cmpI_zero {x y : Int} : cmpI x y = 0 ↔ x = y := by unfold cmpI; split <;> (try split) <;> omega
theorem cmpL_zero : ∀ {a b : List Int}, cmpL a b = 0 ↔ a = b
  | [], [] => by simp [cmpL]
  | [], _ :: _ => by simp [cmpL]
  | _ :: _, [] => by simp [cmpL]
  | x :: a, y :: b => by
    unfold cmpL
    by_cases h : cmpI x y = 0
    · rw [if_neg (by simpa using h), cmpL_zero, cmpI_zero.1 h]; simp
    · rw [if_pos h]
      constructor
      · exact fun e => absurd e h
      · intro e; injection e with e _; exact absurd (cmpI_zero.2 e) h
theorem cmpL_flip : ∀ (a b : List Int), cmpL a b < 0 ∨ cmpL a b = 0 ∨ cmpL b a < 0
  | [], [] => by simp [cmpL]
  | [], _ :: _ => by simp [cmpL]
  | _ :: _, [] => by simp [cmpL]
  | x :: a, y :: b => by
    unfold cmpL
    rcases Int.lt_trichotomy x y with h | h | h
    · left; rw [if_pos (by have := cmpI_neg.2 h; omega)]; exact cmpI_neg.2 h
    · subst h
      have e : cmpI x x = 0 := cmpI_zero.2 rfl
      rw [if_neg (by simpa using e), if_neg (by simpa using e)]
      exact cmpL_flip a b
    · right; right; rw [if_pos (by have := cmpI_neg.2 h; omega)]; exact cmpI_neg.2 h
theorem cmpL_trans : ∀ {a b c : List Int}, cmpL a b < 0 → cmpL b c < 0 → cmpL a c < 0
  | [], [], _, h, _ => by simp [cmpL] at h
  | [], _ :: _, [], _, h => by simp [cmpL] at h
  | [], _ :: _, _ :: _, _, _ => by simp [cmpL]
  | _ :: _, [], _, h, _ => by simp [cmpL] at h
  | _ :: _, _ :: _, [], _, h => by simp [cmpL] at h
  | x :: a, y :: b, z :: c, h1, h2 => by
    unfold cmpL at h1 h2 ⊢
    by_cases e1 : cmpI x y = 0 <;> by_cases e2 : cmpI y z = 0
    · rw [if_neg (by simpa using e1)] at h1
      rw [if_neg (by simpa using e2)] at h2
      obtain rfl := cmpI_zero.1 e1
      rw [if_neg (by simpa using e2)]
      exact cmpL_trans h1 h2
    · rw [if_pos e2] at h2
      obtain rfl := cmpI_zero.1 e1
      rw [if_pos e2]; exact h2
    · rw [if_pos e1] at h1
      obtain rfl := cmpI_zero.1 e2
      rw [if_pos e1]; exact h1
    · rw [if_pos e1] at h1
      rw [if_pos e2] at h2
      have := cmpI_neg.1 h1
      have := cmpI_neg.1 h2
      have h3 : cmpI x z < 0 := cmpI_neg.2 (by omega)
      rw [if_pos (by omega)]; exact h3
theorem cmpS_zero {a b : List Int} : cmpS a b = 0 ↔ a = b := by
  unfold cmpS
  by_cases h : cmpI a.length b.length = 0
  · rw [if_neg (by simpa using h)]; exact cmpL_zero
  · rw [if_pos h]
    exact ⟨fun e => absurd e h, fun e => absurd (cmpI_zero.2 (by rw [e])) h⟩
theorem cmpS_flip (a b : List Int) : cmpS a b < 0 ∨ cmpS a b = 0 ∨ cmpS b a < 0 := by
  unfold cmpS
  rcases Nat.lt_trichotomy a.length b.length with h | h | h
  · left; have h3 : cmpI (a.length : Int) b.length < 0 := cmpI_neg.2 (by omega)
    rw [if_pos (by omega)]; exact h3
  · have e1 : cmpI (a.length : Int) b.length = 0 := cmpI_zero.2 (by omega)
    have e2 : cmpI (b.length : Int) a.length = 0 := cmpI_zero.2 (by omega)
    rw [if_neg (by simpa using e1), if_neg (by simpa using e2)]
    exact cmpL_flip a b
  · right; right; have h3 : cmpI (b.length : Int) a.length < 0 := cmpI_neg.2 (by omega)
    rw [if_pos (by omega)]; exact h3
theorem cmpS_trans {a b c : List Int} (h1 : cmpS a b < 0) (h2 : cmpS b c < 0) : cmpS a c < 0 := by
  unfold cmpS at h1 h2 ⊢
  by_cases e1 : cmpI (a.length : Int) b.length = 0 <;> by_cases e2 : cmpI (b.length : Int) c.length = 0
  · rw [if_neg (by simpa using e1)] at h1
    rw [if_neg (by simpa using e2)] at h2
    have e3 : cmpI (a.length : Int) c.length = 0 := cmpI_zero.2 (by have := cmpI_zero.1 e1; have := cmpI_zero.1 e2; omega)
    rw [if_neg (by simpa using e3)]
    exact cmpL_trans h1 h2
  · rw [if_pos e2] at h2
    rw [cmpI_zero.1 e1, if_pos e2]; exact h2
  · rw [if_pos e1] at h1
    rw [← cmpI_zero.1 e2, if_pos e1]; exact h1
  · rw [if_pos e1] at h1
    rw [if_pos e2] at h2
    have := cmpI_neg.1 h1
    have := cmpI_neg.1 h2
    have h3 : cmpI (a.length : Int) c.length < 0 := cmpI_neg.2 (by omega)
    rw [if_pos (by omega)]; exact h3
theorem cmpS_irrefl (a : List Int) : ¬ cmpS a a < 0 := by rw [cmpS_zero.2 rfl]; omega
theorem cmpS_asymm {a b : List Int} (h : cmpS a b < 0) : ¬ cmpS b a < 0 := fun h2 => cmpS_irrefl a (cmpS_trans h h2)
/-- Lists in strict order with the same elements are the same. -/
theorem sets_ext : ∀ (a b : List (List Int)), a.Pairwise (fun x y => cmpS x y < 0) → b.Pairwise (fun x y => cmpS x y < 0) → (∀ x, x ∈ a ↔ x ∈ b) → a = b
  | [], [], _, _, _ => rfl
  | [], y :: b, _, _, h => by have := (h y).2 (List.mem_cons_self ..); simp at this
  | x :: a, [], _, _, h => by have := (h x).1 (List.mem_cons_self ..); simp at this
  | x :: a, y :: b, ha, hb, h => by
    obtain ⟨h1, h2⟩ := List.pairwise_cons.1 ha
    obtain ⟨h3, h4⟩ := List.pairwise_cons.1 hb
    have hxy : x = y := by
      rcases List.mem_cons.1 ((h x).1 (List.mem_cons_self ..)) with e | e
      · exact e
      · rcases List.mem_cons.1 ((h y).2 (List.mem_cons_self ..)) with e' | e'
        · exact e'.symm
        · exact absurd (h1 y e') (cmpS_asymm (h3 x e))
    subst hxy
    congr 1
    refine sets_ext a b h2 h4 fun z => ⟨fun hz => ?_, fun hz => ?_⟩
    · rcases List.mem_cons.1 ((h z).1 (List.mem_cons_of_mem _ hz)) with e | e
      · subst e; exact absurd (h1 z hz) (cmpS_irrefl z)
      · exact e
    · rcases List.mem_cons.1 ((h z).2 (List.mem_cons_of_mem _ hz)) with e | e
      · subst e; exact absurd (h3 z hz) (cmpS_irrefl z)
      · exact e

/-! Sets. -/
def bitN (b k : Nat) : Bool := decide (b / 2 ^ k % 2 = 1)
def setB (b T : Nat) : List Int := ((List.range T).filter (bitN b)).map fun (k : Nat) => (k : Int)
def allSets (T : Nat) : List (List Int) := (List.range (2 ^ T)).map fun b => setB b T
theorem setB_mem {b T : Nat} {k : Nat} : (k : Int) ∈ setB b T ↔ k < T ∧ bitN b k = true := by
  unfold setB
  rw [List.mem_map]
  constructor
  · rintro ⟨j, hj, e⟩
    obtain rfl : j = k := by omega
    have := List.mem_filter.1 hj
    exact ⟨List.mem_range.1 this.1, this.2⟩
  · rintro ⟨h1, h2⟩; exact ⟨k, List.mem_filter.2 ⟨List.mem_range.2 h1, h2⟩, rfl⟩
theorem setB_range {b T : Nat} {x : Int} (h : x ∈ setB b T) : ∃ k : Nat, x = k ∧ k < T := by
  unfold setB at h
  obtain ⟨k, hk, rfl⟩ := List.mem_map.1 h
  exact ⟨k, rfl, List.mem_range.1 (List.mem_filter.1 hk).1⟩
theorem setB_succ (b T : Nat) : setB b (T + 1) = setB b T ++ (if bitN b T = true then [(T : Int)] else []) := by
  unfold setB
  rw [List.range_succ, List.filter_append, List.map_append]
  by_cases h : bitN b T = true <;> simp [h]
theorem setB_len (b T : Nat) : (setB b T).length ≤ T := by
  unfold setB
  rw [List.length_map]
  exact Nat.le_trans (List.length_filter_le _ _) (by simp)
theorem setB_inj : ∀ {T b c : Nat}, b < 2 ^ T → c < 2 ^ T → setB b T = setB c T → b = c := fun {T b c} hb hc h => by
  have hbit : ∀ k, k < T → bitN b k = bitN c k := fun k hk => by
    have h1 := setB_mem (b := b) (T := T) (k := k)
    have h2 := setB_mem (b := c) (T := T) (k := k)
    rw [h] at h1
    have h3 : (k < T ∧ bitN b k = true) ↔ (k < T ∧ bitN c k = true) := h1.symm.trans h2
    cases e1 : bitN b k <;> cases e2 : bitN c k <;> simp_all
  clear h
  induction T generalizing b c with
  | zero => simp at hb hc; omega
  | succ T ih =>
    have hd : b / 2 = c / 2 := ih (by rw [Nat.pow_succ] at hb; omega) (by rw [Nat.pow_succ] at hc; omega) (fun k hk => by
      have := hbit (k + 1) (by omega)
      unfold bitN at this ⊢
      rw [Nat.div_div_eq_div_mul, Nat.div_div_eq_div_mul, Nat.mul_comm, ← Nat.pow_succ]
      exact this)
    have h0 := hbit 0 (by omega)
    unfold bitN at h0
    simp only [Nat.pow_zero, Nat.div_one] at h0
    have h1 : (b % 2 = 1) ↔ (c % 2 = 1) := by simpa using h0
    omega
theorem allSets_nodup (T : Nat) : (allSets T).Nodup := by
  unfold allSets List.Nodup
  rw [List.pairwise_map]
  refine List.Pairwise.imp_of_mem ?_ (List.pairwise_lt_range)
  intro b c hb hc hlt e
  have := setB_inj (List.mem_range.1 hb) (List.mem_range.1 hc) e
  omega
def insS (x : List Int) : List (List Int) → List (List Int)
  | [] => [x]
  | y :: r => if cmpS x y < 0 then x :: y :: r else y :: insS x r
theorem insS_perm (x : List Int) : ∀ l, (insS x l).Perm (x :: l)
  | [] => List.Perm.refl _
  | y :: r => by
    unfold insS
    split
    · exact List.Perm.refl _
    · exact ((insS_perm x r).cons y).trans (List.Perm.swap x y r)
theorem insS_sorted (x : List Int) : ∀ l, x ∉ l → l.Pairwise (fun x y => cmpS x y < 0) → (insS x l).Pairwise (fun x y => cmpS x y < 0)
  | [], _, _ => by simp [insS]
  | y :: r, hx, h => by
    obtain ⟨h1, h2⟩ := List.pairwise_cons.1 h
    unfold insS
    split
    · rename_i hlt
      refine List.pairwise_cons.2 ⟨fun z hz => ?_, h⟩
      rcases List.mem_cons.1 hz with rfl | hz
      · exact hlt
      · exact cmpS_trans hlt (h1 z hz)
    · rename_i hlt
      refine List.pairwise_cons.2 ⟨fun z hz => ?_, insS_sorted x r (fun hr => hx (List.mem_cons_of_mem _ hr)) h2⟩
      rcases List.mem_cons.1 ((insS_perm x r).mem_iff.1 hz) with rfl | hz
      · rcases cmpS_flip y z with h3 | h3 | h3
        · exact h3
        · exact absurd (List.mem_cons.2 (.inl (cmpS_zero.1 h3).symm)) hx
        · exact absurd h3 hlt
      · exact h1 z hz
def setsS (T : Nat) : List (List Int) := (allSets T).foldr insS []
theorem foldr_ins : ∀ l : List (List Int), l.Nodup → (l.foldr insS []).Perm l ∧ (l.foldr insS []).Pairwise (fun x y => cmpS x y < 0)
  | [], _ => ⟨List.Perm.refl _, List.Pairwise.nil⟩
  | x :: l, h => by
    obtain ⟨h1, h2⟩ := List.nodup_cons.1 h
    obtain ⟨h3, h4⟩ := foldr_ins l h2
    exact ⟨(insS_perm x _).trans (h3.cons x), insS_sorted x _ (fun hm => h1 (h3.mem_iff.1 hm)) h4⟩
theorem setsS_perm (T : Nat) : (setsS T).Perm (allSets T) := (foldr_ins _ (allSets_nodup T)).1
theorem setsS_sorted (T : Nat) : (setsS T).Pairwise (fun x y => cmpS x y < 0) := (foldr_ins _ (allSets_nodup T)).2
/-- What is a permutation of all sets, and in order, is this list. -/
theorem setsS_unique {T : Nat} {l : List (List Int)} (hp : l.Perm (allSets T)) (hs : l.Pairwise (fun x y => ¬ cmpS y x < 0)) : l = setsS T := by
  refine sets_ext _ _ ?_ (setsS_sorted T) fun x => hp.mem_iff.trans (setsS_perm T).mem_iff.symm
  have hn : l.Nodup := hp.nodup_iff.2 (allSets_nodup T)
  have hb : l.Pairwise (fun x y => x ≠ y ∧ ¬ cmpS y x < 0) := hn.and hs
  refine hb.imp fun {x y} h => ?_
  rcases cmpS_flip x y with h1 | h1 | h1
  · exact h1
  · exact absurd (cmpS_zero.1 h1) h.1
  · exact absurd h1 h.2
theorem setsS_mem {T : Nat} {s : List Int} (h : s ∈ setsS T) : s.length ≤ T ∧ ∀ x ∈ s, ∃ k : Nat, x = k ∧ k < T := by
  have := (setsS_perm T).mem_iff.1 h
  unfold allSets at this
  obtain ⟨b, _, rfl⟩ := List.mem_map.1 this
  exact ⟨setB_len b T, fun x hx => setB_range hx⟩

/-! What may be otherwise. -/
def freeS (x : List Int) (s : List Int) (k : Nat) : Spn := if (k : Int) ∈ s then ⟨0, 1000000⟩ else ⟨x.getD k 0, x.getD k 0⟩
def freeL (x : List Int) (s : List Int) : List Spn := (List.range x.length).map (freeS x s)
theorem freeL_len (x s : List Int) : (freeL x s).length = x.length := by unfold freeL; simp
theorem freeL_take (x s : List Int) {i : Nat} (h : i < x.length) : (freeL x s).take (i + 1) = (freeL x s).take i ++ [if (i : Int) ∈ s then ⟨0, 1000000⟩ else ⟨x[i], x[i]⟩] := by
  rw [List.take_succ_eq_append_getElem (by rw [freeL_len]; exact h)]
  unfold freeL freeS
  simp [h]
def pickV (s y : List Int) : List Int := s.map fun k => y.getD k.toNat 0
/-- The first vector of a set by which the answer is another one. -/
def firstR (sc : List Int → Bool) (was : Bool) (L : List Int → List (List Int)) (s : List Int) : Option (List Int) := (L s).find? fun y => sc y != was
def reasR (sc : List Int → Bool) (was : Bool) (L : List Int → List (List Int)) (ss : List (List Int)) : Option (List Int × List Int) :=
  ss.findSome? fun s => (firstR sc was L s).map fun y => (s, pickV s y)
end Go.Proofs.YtpahcbhikmfamaaGreat
