/- Edits of two words as plain mathematics: the least number of letters taken out, put in or replaced, and that it is a distance. -/
namespace Go.Proofs.YtbkmfomdhjhkpaaGreat

def sub (a b : List UInt8) (i j : Nat) : Nat := if a[i]? = b[j]? then 0 else 1

def D (a b : List UInt8) : Nat → Nat → Nat
  | 0, j => j
  | i + 1, 0 => i + 1
  | i + 1, j + 1 => min (D a b i j + sub a b i j) (min (D a b i (j + 1) + 1) (D a b (i + 1) j + 1))

theorem D_zero (a b : List UInt8) (j : Nat) : D a b 0 j = j := by rw [D]
theorem D_left (a b : List UInt8) (i : Nat) : D a b i 0 = i := by cases i <;> rw [D]
theorem D_succ (a b : List UInt8) (i j : Nat) : D a b (i + 1) (j + 1) = min (D a b i j + sub a b i j) (min (D a b i (j + 1) + 1) (D a b (i + 1) j + 1)) := by rw [D]

theorem sub_le (a b : List UInt8) (i j : Nat) : sub a b i j ≤ 1 := by unfold sub; split <;> omega
theorem sub_comm (a b : List UInt8) (i j : Nat) : sub a b i j = sub b a j i := by
  unfold sub
  by_cases h : a[i]? = b[j]?
  · rw [if_pos h, if_pos h.symm]
  · rw [if_neg h, if_neg (fun e => h e.symm)]
theorem sub_tri (a b c : List UInt8) (i j k : Nat) : sub a c i k ≤ sub a b i j + sub b c j k := by
  unfold sub
  by_cases h : a[i]? = b[j]?
  · rw [if_pos h, h]; omega
  · rw [if_neg h]; split <;> omega

theorem D_comm (a b : List UInt8) (i j : Nat) : D a b i j = D b a j i := by
  induction i generalizing j with
  | zero => rw [D_zero, D_left]
  | succ i ih =>
    induction j with
    | zero => rw [D_zero, D_left]
    | succ j ihj =>
      rw [D_succ, D_succ, ih, ih, ihj, sub_comm]
      omega

theorem D_bounds (a b : List UInt8) (i j : Nat) : i - j ≤ D a b i j ∧ j - i ≤ D a b i j ∧ D a b i j ≤ max i j := by
  induction i generalizing j with
  | zero => rw [D_zero]; omega
  | succ i ih =>
    induction j with
    | zero => rw [D_left]; omega
    | succ j ihj =>
      rw [D_succ]
      have h1 := ih j
      have h2 := ih (j + 1)
      have := sub_le a b i j
      omega

theorem D_step_right (a b : List UInt8) (i j : Nat) : D a b i (j + 1) ≤ D a b i j + 1 := by
  cases i with
  | zero => rw [D_zero, D_zero]; omega
  | succ i => rw [D_succ]; omega
theorem D_step_left (a b : List UInt8) (i j : Nat) : D a b (i + 1) j ≤ D a b i j + 1 := by
  rw [D_comm, D_comm a b i j]; exact D_step_right b a j i
theorem D_back_right (a b : List UInt8) (i j : Nat) : D a b i j ≤ D a b i (j + 1) + 1 := by
  induction i generalizing j with
  | zero => rw [D_zero, D_zero]; omega
  | succ i ih =>
    rw [D_succ]
    have h1 := D_step_left a b i j
    have h2 := ih j
    omega
theorem D_back_left (a b : List UInt8) (i j : Nat) : D a b i j ≤ D a b (i + 1) j + 1 := by
  rw [D_comm, D_comm a b (i + 1) j]; exact D_back_right b a j i

/-- Over a third word no fewer. -/
theorem D_tri (a b c : List UInt8) (n : Nat) : ∀ i j k, i + j + k ≤ n → D a c i k ≤ D a b i j + D b c j k := by
  induction n with
  | zero => intro i j k h; obtain ⟨rfl, rfl, rfl⟩ : i = 0 ∧ j = 0 ∧ k = 0 := by omega
            rw [D_zero]; omega
  | succ n ih =>
    intro i j k h
    cases i with
    | zero =>
      rw [D_zero, D_zero]
      have := D_bounds b c j k
      omega
    | succ i =>
      cases k with
      | zero =>
        rw [D_left, D_left]
        have := D_bounds a b (i + 1) j
        omega
      | succ k =>
        cases j with
        | zero =>
          rw [D_left, D_zero]
          have := D_bounds a c (i + 1) (k + 1)
          omega
        | succ j =>
          have h1 := ih i j k (by omega)
          have h2 := ih i (j + 1) (k + 1) (by omega)
          have h3 := ih (i + 1) (j + 1) k (by omega)
          have h4 := ih (i + 1) j (k + 1) (by omega)
          have h5 := ih i j (k + 1) (by omega)
          have h6 := ih (i + 1) j k (by omega)
          have ht := sub_tri a b c i j k
          have e1 := D_succ a c i k
          have e2 := D_succ a b i j
          have e3 := D_succ b c j k
          omega

theorem D_self (a : List UInt8) (i : Nat) : D a a i i = 0 := by
  induction i with
  | zero => rw [D_zero]
  | succ i ih => rw [D_succ, ih]; simp [sub]

theorem D_zero_eq (a b : List UInt8) (i j : Nat) (h : D a b i j = 0) : i = j ∧ ∀ k, k < i → a[k]? = b[k]? := by
  induction i generalizing j with
  | zero => rw [D_zero] at h; exact ⟨h.symm, fun k hk => by omega⟩
  | succ i ih =>
    cases j with
    | zero => rw [D_left] at h; omega
    | succ j =>
      rw [D_succ] at h
      have h1 : D a b i j = 0 := by omega
      have h2 : sub a b i j = 0 := by omega
      obtain ⟨rfl, h3⟩ := ih j h1
      refine ⟨rfl, fun k hk => ?_⟩
      by_cases e : k = i
      · subst e; unfold sub at h2; split at h2
        · assumption
        · omega
      · exact h3 k (by omega)

/-- The letters behind do not matter. -/
theorem D_congr (a b a' b' : List UInt8) (i j : Nat) (h : ∀ k, k < i → a[k]? = a'[k]?) (g : ∀ k, k < j → b[k]? = b'[k]?) : D a b i j = D a' b' i j := by
  induction i generalizing j with
  | zero => rw [D_zero, D_zero]
  | succ i ih =>
    induction j with
    | zero => rw [D_left, D_left]
    | succ j ihj =>
      rw [D_succ, D_succ, ih j (fun k hk => h k (by omega)) (fun k hk => g k (by omega)), ih (j + 1) (fun k hk => h k (by omega)) g, ihj (fun k hk => g k (by omega))]
      unfold sub; rw [h i (by omega), g j (by omega)]

def lev (a b : List UInt8) : Nat := D a b a.length b.length

theorem lev_comm (a b : List UInt8) : lev a b = lev b a := D_comm _ _ _ _
theorem lev_tri (a b c : List UInt8) : lev a c ≤ lev a b + lev b c := D_tri a b c _ _ _ _ (Nat.le_refl _)
theorem lev_zero (a b : List UInt8) : lev a b = 0 ↔ a = b := by
  constructor
  · intro h
    obtain ⟨hl, hk⟩ := D_zero_eq a b _ _ h
    apply List.ext_getElem? fun k => ?_
    by_cases e : k < a.length
    · exact hk k e
    · rw [List.getElem?_eq_none (by omega), List.getElem?_eq_none (by omega)]
  · rintro rfl; exact D_self a _
theorem lev_bounds (a b : List UInt8) : a.length - b.length ≤ lev a b ∧ b.length - a.length ≤ lev a b ∧ lev a b ≤ max a.length b.length := D_bounds a b _ _
theorem lev_more (a b : List UInt8) (c : UInt8) : lev (a ++ [c]) b ≤ lev a b + 1 ∧ lev a b ≤ lev (a ++ [c]) b + 1 := by
  have e : lev a b = D (a ++ [c]) b a.length b.length := D_congr _ _ _ _ _ _ (fun k hk => by rw [List.getElem?_append_left hk]) (fun _ _ => rfl)
  have e2 : lev (a ++ [c]) b = D (a ++ [c]) b (a.length + 1) b.length := by unfold lev; simp
  rw [e, e2]
  exact ⟨D_step_left _ _ _ _, D_back_left _ _ _ _⟩
end Go.Proofs.YtbkmfomdhjhkpaaGreat
