/- Determinants of small matrices of numbers, by their first row: as much as the bounds of an elimination need. -/
import Derived.Test.YtbkekdbabkncfaaGreatD1
import Derived.Test.YtbkekdbabkncfaaGreatD2

namespace Go.Proofs.YtbkekdbabkncfaaGreat.Det

def sumR : Nat → (Nat → Rat) → Rat
  | 0, _ => 0
  | n + 1, f => sumR n f + f n
theorem sumR_congr {n : Nat} {f g : Nat → Rat} (h : ∀ i, i < n → f i = g i) : sumR n f = sumR n g := by
  induction n with
  | zero => rfl
  | succ n ih => simp only [sumR]; rw [ih (fun i hi => h i (by omega)), h n (by omega)]
theorem sumR_zero {n : Nat} {f : Nat → Rat} (h : ∀ i, i < n → f i = 0) : sumR n f = 0 := by
  induction n with
  | zero => rfl
  | succ n ih => simp only [sumR]; rw [ih (fun i hi => h i (by omega)), h n (by omega)]; exact Rat.add_zero 0
theorem sumR_lin (n : Nat) (a b : Rat) (f g : Nat → Rat) : sumR n (fun i => a * f i + b * g i) = a * sumR n f + b * sumR n g := by
  induction n with
  | zero => show (0 : Rat) = a * 0 + b * 0; grind
  | succ n ih => simp only [sumR]; rw [ih]; grind
theorem sumR_one {n p : Nat} {f : Nat → Rat} (hp : p < n) (h : ∀ i, i < n → i ≠ p → f i = 0) : sumR n f = f p := by
  induction n with
  | zero => omega
  | succ n ih =>
    simp only [sumR]
    by_cases e : p = n
    · subst e
      rw [sumR_zero (fun i hi => h i (by omega) (by omega)), Rat.zero_add]
    · rw [ih (by omega) (fun i hi hn => h i (by omega) hn), h n (by omega) (fun e' => e e'.symm), Rat.add_zero]
theorem sumR_two {n p q : Nat} {f : Nat → Rat} (hp : p < q) (hq : q < n) (h : ∀ i, i < n → i ≠ p → i ≠ q → f i = 0) : sumR n f = f p + f q := by
  induction n with
  | zero => omega
  | succ n ih =>
    simp only [sumR]
    by_cases e : q = n
    · subst e
      rw [sumR_one hp (fun i hi hn => h i (by omega) hn (by omega))]
    · rw [ih (by omega) (fun i hi h1 h2 => h i (by omega) h1 h2), h n (by omega) (by omega) (fun e' => e e'.symm), Rat.add_zero]

def sgn (j : Nat) : Rat := if j % 2 = 0 then 1 else -1
theorem sgn_succ (j : Nat) : sgn (j + 1) = - sgn j := by
  unfold sgn
  by_cases h : j % 2 = 0
  · rw [if_pos h, if_neg (by omega)]
  · rw [if_neg h, if_pos (by omega)]; rfl
theorem sgn_add (a b : Nat) : sgn (a + b) = sgn a * sgn b := by
  induction b with
  | zero => rw [Nat.add_zero]; show sgn a = sgn a * 1; rw [Rat.mul_one]
  | succ b ih => rw [← Nat.add_assoc, sgn_succ, ih, sgn_succ]; grind
theorem sgn_sq (a : Nat) : sgn a = 1 ∨ sgn a = -1 := by
  unfold sgn
  split
  · exact .inl rfl
  · exact .inr rfl

abbrev Mat := Nat → Nat → Rat
def skip (j k : Nat) : Nat := if k < j then k else k + 1
def minor (M : Mat) (j : Nat) : Mat := fun i k => M (i + 1) (skip j k)
def det : Nat → Mat → Rat
  | 0, _ => 1
  | n + 1, M => sumR (n + 1) fun j => sgn j * M 0 j * det n (minor M j)
theorem skip_lt {j k n : Nat} (hk : k < n) (_hj : j < n + 1) : skip j k < n + 1 := by unfold skip; split <;> omega
theorem det_congr : ∀ {n : Nat} {M M' : Mat}, (∀ i, i < n → ∀ j, j < n → M i j = M' i j) → det n M = det n M'
  | 0, _, _, _ => rfl
  | n + 1, M, M', h => by
    simp only [det]
    refine sumR_congr fun j hj => ?_
    rw [h 0 (by omega) j hj, det_congr (M := minor M j) (M' := minor M' j) (fun i hi k hk => h (i + 1) (by omega) _ (skip_lt hk hj))]
/-- A column that is a sum. -/
theorem det_col : ∀ (n : Nat) (M U V : Mat) (j : Nat) (a b : Rat), j < n → (∀ i, i < n → M i j = a * U i j + b * V i j) → (∀ i, i < n → ∀ k, k < n → k ≠ j → M i k = U i k ∧ M i k = V i k) → det n M = a * det n U + b * det n V
  | 0, _, _, _, _, _, _, hj, _, _ => by omega
  | n + 1, M, U, V, j, a, b, hj, h1, h2 => by
    simp only [det]
    rw [← sumR_lin]
    refine sumR_congr fun k hk => ?_
    by_cases e : k = j
    · subst e
      have e1 : det n (minor M k) = det n (minor U k) := det_congr fun i hi l hl => (h2 (i + 1) (by omega) _ (skip_lt hl hk) (by unfold skip; split <;> omega)).1
      have e2 : det n (minor M k) = det n (minor V k) := det_congr fun i hi l hl => (h2 (i + 1) (by omega) _ (skip_lt hl hk) (by unfold skip; split <;> omega)).2
      rw [← e1, ← e2, h1 0 (by omega)]
      grind
    · obtain ⟨e1, e2⟩ := h2 0 (by omega) k hk e
      have ih := det_col n (minor M k) (minor U k) (minor V k) (if j < k then j else j - 1) a b (by split <;> omega)
        (fun i hi => by
          have hs : skip k (if j < k then j else j - 1) = j := by unfold skip; split <;> (try split) <;> omega
          show M (i + 1) (skip k _) = a * U (i + 1) (skip k _) + b * V (i + 1) (skip k _)
          rw [hs]; exact h1 (i + 1) (by omega))
        (fun i hi l hl hne => h2 (i + 1) (by omega) _ (skip_lt hl hk) (by revert hne; unfold skip; split <;> (try split) <;> omega))
      rw [ih, ← e1, ← e2]
      grind
def setC (M : Mat) (j : Nat) (v : Nat → Rat) : Mat := fun i k => if k = j then v i else M i k
theorem setC_col (n : Nat) (M : Mat) (j : Nat) (hj : j < n) (a b : Rat) (u v : Nat → Rat) : det n (setC M j fun i => a * u i + b * v i) = a * det n (setC M j u) + b * det n (setC M j v) :=
  det_col n _ _ _ j a b hj (fun i _ => by simp [setC]) (fun i _ k _ hk => by simp [setC, hk])
theorem setC_self (n : Nat) (M : Mat) (j : Nat) : det n (setC M j fun i => M i j) = det n M := det_congr fun i _ k _ => by
  unfold setC
  split
  · rename_i e; rw [e]
  · rfl
def Alt (n : Nat) : Prop := ∀ (M : Mat) (p q : Nat), p < q → q < n → (∀ i, i < n → M i p = M i q) → det n M = 0
theorem det_swap {n : Nat} (hA : Alt n) (M : Mat) (p q : Nat) (hpq : p < q) (hq : q < n) : det n (setC (setC M p fun i => M i q) q fun i => M i p) = - det n M := by
  have hz : ∀ u : Nat → Rat, det n (setC (setC M p u) q u) = 0 := fun u => hA _ p q hpq hq fun i _ => by
    have : p ≠ q := by omega
    simp [setC, this]
  have h1 := hz fun i => 1 * M i p + 1 * M i q
  have e1 : ∀ v : Nat → Rat, det n (setC (setC M p fun i => 1 * M i p + 1 * M i q) q v) = 1 * det n (setC (setC M p fun i => M i p) q v) + 1 * det n (setC (setC M p fun i => M i q) q v) := fun v => det_col n _ _ _ p 1 1 (by omega) (fun i _ => by
    have : p ≠ q := by omega
    simp [setC, this]) (fun i _ k _ hk => by simp [setC, hk])
  rw [setC_col n _ q hq, e1, e1, hz fun i => M i p, hz fun i => M i q] at h1
  have e2 : det n (setC (setC M p fun i => M i p) q fun i => M i q) = det n M := det_congr fun i _ k _ => by
    unfold setC
    split
    · rename_i e; rw [e]
    · split
      · rename_i e; rw [e]
      · rfl
  rw [e2] at h1
  grind

/-- Columns p .. q of a minor's, the one that is alike moved to s. -/
def moved (M : Mat) (p q s : Nat) : Mat := fun i k =>
  if k < p then M (i + 1) k else if k < s then M (i + 1) (k + 1) else if k = s then M (i + 1) p else if k < q then M (i + 1) k else M (i + 1) (k + 1)
theorem det_moved {n : Nat} (hA : Alt n) (M : Mat) {p q s : Nat} (hps : p ≤ s) (hsq : s + 1 < q) (hq : q < n + 1) : det n (moved M p q (s + 1)) = - det n (moved M p q s) := by
  rw [← det_swap hA (moved M p q s) s (s + 1) (by omega) (by omega)]
  refine det_congr fun i _ k hk => ?_
  unfold setC moved
  by_cases h1 : k = s + 1
  · subst h1
    simp
    rw [if_neg (by omega)]
    grind
  · by_cases h2 : k = s
    · subst h2
      grind
    · grind
theorem det_moves {n : Nat} (hA : Alt n) (M : Mat) {p q : Nat} (hq : q < n + 1) : ∀ d, p + d < q → det n (moved M p q (p + d)) = sgn d * det n (moved M p q p)
  | 0, _ => by show _ = (1 : Rat) * _; rw [Rat.one_mul]; rfl
  | d + 1, h => by
    rw [← Nat.add_assoc, det_moved hA M (by omega) (by omega) hq, det_moves hA M hq d (by omega), sgn_succ]
    grind
theorem alt : ∀ n, Alt n
  | 0 => fun _ _ _ _ hq _ => by omega
  | n + 1 => fun M p q hpq hq h => by
    have hA := alt n
    simp only [det]
    rw [sumR_two hpq hq]
    · have e1 : det n (minor M q) = det n (moved M p q p) := det_congr fun i _ k _ => by
        unfold minor skip moved
        grind
      have e2 : det n (minor M p) = det n (moved M p q (p + (q - 1 - p))) := det_congr fun i hi k _ => by
        have := h (i + 1) (by omega)
        unfold minor skip moved
        grind
      have e3 : sgn q = sgn p * (- sgn (q - 1 - p)) := by
        rw [← sgn_succ, ← sgn_add]
        congr 1; omega
      rw [e1, e2, det_moves hA M (by omega) _ (by omega), e3, h 0 (by omega)]
      grind
    · intro j hj hjp hjq
      have : det n (minor M j) = 0 := by
        refine hA _ (if p < j then p else p - 1) (if q < j then q else q - 1) (by split <;> split <;> omega) (by split <;> omega) fun i hi => ?_
        have e1 : skip j (if p < j then p else p - 1) = p := by unfold skip; grind
        have e2 : skip j (if q < j then q else q - 1) = q := by unfold skip; grind
        show M (i + 1) (skip j _) = M (i + 1) (skip j _)
        rw [e1, e2]; exact h (i + 1) (by omega)
      rw [this, Rat.mul_zero]

/-- A column that is a sum of columns. -/
theorem det_sum (n : Nat) (M : Mat) (j : Nat) (hj : j < n) (x : Nat → Rat) (u : Nat → Nat → Rat) : ∀ m, det n (setC M j fun i => sumR m fun k => x k * u k i) = sumR m fun k => x k * det n (setC M j (u k))
  | 0 => by
    have h := setC_col n M j hj 0 0 (fun _ => 0) (fun _ => 0)
    have e : det n (setC M j fun i => sumR 0 fun k => x k * u k i) = det n (setC M j fun _ => 0 * 0 + 0 * 0) := det_congr fun i _ k _ => by
      show setC M j (fun _ => (0 : Rat)) i k = _
      unfold setC
      split
      · grind
      · rfl
    rw [e, h]
    show _ = (0 : Rat)
    grind
  | m + 1 => by
    have h := setC_col n M j hj 1 (x m) (fun i => sumR m fun k => x k * u k i) (u m)
    have e : det n (setC M j fun i => sumR (m + 1) fun k => x k * u k i) = det n (setC M j fun i => 1 * (sumR m fun k => x k * u k i) + x m * u m i) := det_congr fun i _ k _ => by
      unfold setC
      split
      · show (sumR m fun k => x k * u k i) + x m * u m i = 1 * (sumR m fun k => x k * u k i) + x m * u m i
        rw [Rat.one_mul]
      · rfl
    rw [e, h, det_sum n M j hj x u m, Rat.one_mul]
    rfl
theorem det_two (n : Nat) (M : Mat) (j k : Nat) (hj : j < n) (hk : k < n) (hn : k ≠ j) : det n (setC M j fun i => M i k) = 0 := by
  by_cases h : k < j
  · exact alt n _ k j h hj fun i _ => by simp [setC, hn]
  · exact alt n _ j k (by omega) hk fun i _ => by simp [setC, hn]
theorem cramer (n : Nat) (M : Mat) (j : Nat) (hj : j < n) (x w : Nat → Rat) (h : ∀ i, i < n → w i = sumR n fun k => x k * M i k) : det n (setC M j w) = x j * det n M := by
  have e : det n (setC M j w) = det n (setC M j fun i => sumR n fun k => x k * M i k) := det_congr fun i hi k _ => by
    unfold setC
    split
    · exact h i hi
    · rfl
  have h2 := det_sum n M j hj x (fun k i => M i k) n
  rw [e, h2, sumR_one hj (fun k hk hn => by rw [det_two n M j k hj hk hn, Rat.mul_zero]), setC_self]
theorem det_last : ∀ (n : Nat) (M : Mat) (t : Rat), (∀ i, i < n → M i n = 0) → M n n = t → det (n + 1) M = t * det n M
  | 0, M, t, _, h => by
    show (0 : Rat) + sgn 0 * M 0 0 * 1 = t * 1
    rw [h]
    show (0 : Rat) + 1 * t * 1 = t * 1
    grind
  | n + 1, M, t, h1, h2 => by
    have e : det (n + 1 + 1) M = (sumR (n + 1) fun j => sgn j * M 0 j * det (n + 1) (minor M j)) + sgn (n + 1) * M 0 (n + 1) * det (n + 1) (minor M (n + 1)) := rfl
    rw [e, h1 0 (by omega)]
    have e2 : (sumR (n + 1) fun j => sgn j * M 0 j * det (n + 1) (minor M j)) = sumR (n + 1) fun j => t * (sgn j * M 0 j * det n (minor M j)) + 0 * 0 := sumR_congr fun j hj => by
      rw [det_last n (minor M j) t (fun i hi => by
        show M (i + 1) (skip j n) = 0
        have : skip j n = n + 1 := by unfold skip; grind
        rw [this]; exact h1 _ (by omega)) (by
        show M (n + 1) (skip j n) = t
        have : skip j n = n + 1 := by unfold skip; grind
        rw [this]; exact h2)]
      grind
    rw [e2, sumR_lin (n + 1) t 0 _ (fun _ => 0)]
    show _ = t * (sumR (n + 1) fun j => sgn j * M 0 j * det n (minor M j))
    grind
/-- One row and one column more: the last column less what the others give. -/
theorem det_more (n : Nat) (M : Mat) (x : Nat → Rat) (h : ∀ i, i < n → M i n = sumR n fun k => x k * M i k) : det (n + 1) M = (M n n - sumR n fun k => x k * M n k) * det n M := by
  have h1 := setC_col (n + 1) M n (by omega) 1 (-1) (fun i => M i n) (fun i => sumR n fun k => x k * M i k)
  have h2 := det_sum (n + 1) M n (by omega) x (fun k i => M i k) n
  have h3 : (sumR n fun k => x k * det (n + 1) (setC M n fun i => M i k)) = 0 := sumR_zero fun k hk => by
    rw [det_two (n + 1) M n k (by omega) (by omega) (by omega), Rat.mul_zero]
  rw [h2, h3, setC_self] at h1
  have h4 : det (n + 1) (setC M n fun i => 1 * M i n + -1 * sumR n fun k => x k * M i k) = (M n n - sumR n fun k => x k * M n k) * det n M := by
    rw [det_last n _ (M n n - sumR n fun k => x k * M n k)]
    · congr 1
      exact det_congr fun i _ k hk => by simp [setC]; omega
    · intro i hi
      simp only [setC]
      rw [← h i hi]
      simp; grind
    · simp only [setC]
      simp; grind
  rw [h4] at h1
  rw [h1]; grind

/-- A whole number no farther from nought than K. -/
def IntB (K : Nat) (q : Rat) : Prop := ∃ z : Int, q = (z : Rat) ∧ z.natAbs ≤ K
theorem IntB.mono {K L : Nat} {q : Rat} (h : IntB K q) (hl : K ≤ L) : IntB L q := by
  obtain ⟨z, e, hz⟩ := h
  exact ⟨z, e, by omega⟩
theorem IntB.add {K L : Nat} {a b : Rat} (h : IntB K a) (h' : IntB L b) : IntB (K + L) (a + b) := by
  obtain ⟨z, e, hz⟩ := h
  obtain ⟨y, e', hy⟩ := h'
  exact ⟨z + y, by rw [e, e', Rat.intCast_add], by omega⟩
theorem IntB.neg {K : Nat} {a : Rat} (h : IntB K a) : IntB K (-a) := by
  obtain ⟨z, e, hz⟩ := h
  exact ⟨-z, by rw [e, Rat.intCast_neg], by omega⟩
theorem IntB.sub {K L : Nat} {a b : Rat} (h : IntB K a) (h' : IntB L b) : IntB (K + L) (a - b) := by
  rw [Rat.sub_eq_add_neg]; exact h.add h'.neg
theorem IntB.mul {K L : Nat} {a b : Rat} (h : IntB K a) (h' : IntB L b) : IntB (K * L) (a * b) := by
  obtain ⟨z, e, hz⟩ := h
  obtain ⟨y, e', hy⟩ := h'
  exact ⟨z * y, by rw [e, e', Rat.intCast_mul], by rw [Int.natAbs_mul]; exact Nat.mul_le_mul hz hy⟩
theorem IntB.zero (K : Nat) : IntB K 0 := ⟨0, rfl, Nat.zero_le _⟩
theorem IntB.one {K : Nat} (h : 1 ≤ K) : IntB K 1 := ⟨1, rfl, h⟩
theorem IntB.sum {K : Nat} {f : Nat → Rat} : ∀ {n : Nat}, (∀ i, i < n → IntB K (f i)) → IntB (n * K) (sumR n f)
  | 0, _ => IntB.zero _
  | n + 1, h => by
    rw [Nat.succ_mul]
    exact (IntB.sum fun i hi => h i (by omega)).add (h n (by omega))
def fct : Nat → Nat
  | 0 => 1
  | n + 1 => (n + 1) * fct n
theorem fct_mono (n : Nat) : fct n ≤ fct (n + 1) := by
  show fct n ≤ (n + 1) * fct n
  rw [Nat.succ_mul]; omega
theorem fct_le {n m : Nat} (h : n ≤ m) : fct n ≤ fct m := by
  induction m with
  | zero => rw [Nat.le_zero.1 h]; exact Nat.le_refl _
  | succ m ih =>
    by_cases e : n = m + 1
    · rw [e]; exact Nat.le_refl _
    · exact Nat.le_trans (ih (by omega)) (fct_mono m)
theorem fct_pos (n : Nat) : 1 ≤ fct n := fct_le (n := 0) (Nat.zero_le n)
def Bit (q : Rat) : Prop := q = 0 ∨ q = 1
theorem Bit.intB {q : Rat} (h : Bit q) : IntB 1 q := by
  rcases h with h | h
  · rw [h]; exact IntB.zero 1
  · rw [h]; exact IntB.one (Nat.le_refl 1)
theorem sgn_intB (j : Nat) : IntB 1 (sgn j) := by
  rcases sgn_sq j with h | h
  · rw [h]; exact IntB.one (Nat.le_refl 1)
  · rw [h]; exact (IntB.one (Nat.le_refl 1)).neg
theorem det_intB : ∀ (n : Nat) (M : Mat), (∀ i, i < n → ∀ j, j < n → Bit (M i j)) → IntB (fct n) (det n M)
  | 0, _, _ => IntB.one (Nat.le_refl 1)
  | n + 1, M, h => by
    simp only [det]
    show IntB ((n + 1) * fct n) _
    refine IntB.sum fun j hj => ?_
    have h1 := ((sgn_intB j).mul (h 0 (by omega) j hj).intB).mul (det_intB n (minor M j) fun i hi k hk => h (i + 1) (by omega) _ (skip_lt hk hj))
    exact h1.mono (by omega)
end Go.Proofs.YtbkekdbabkncfaaGreat.Det

namespace Go.Proofs.YtbkekdbabkncfaaGreat.Det

structure Inv (r : Nat) (e : Nat → Nat → Rat) (L : Nat → Nat → Rat) (p : Nat → Nat) : Prop where
  bit : ∀ k, k < r → ∀ c, Bit (e k c)
  span : ∀ k, k < r → ∀ c, e k c = sumR r fun j => e k (p j) * L j c
  unit : ∀ j, j < r → ∀ k, k < r → L j (p k) = if j = k then 1 else 0
  dne : det r (fun k j => e k (p j)) ≠ 0
theorem Inv.nil (e L : Nat → Nat → Rat) (p : Nat → Nat) : Inv 0 e L p := ⟨fun k h => by omega, fun k h => by omega, fun k h => by omega, by
  show (1 : Rat) ≠ 0
  decide⟩
/-- A fraction over D, bounded. -/
def Over (D : Rat) (K : Nat) (q : Rat) : Prop := IntB K (q * D)
theorem Inv.den {r : Nat} {e L : Nat → Nat → Rat} {p : Nat → Nat} (h : Inv r e L p) : IntB (fct r) (det r (fun k j => e k (p j))) := det_intB r _ fun i hi _ _ => h.bit i hi _
theorem Inv.over {r : Nat} {e L : Nat → Nat → Rat} {p : Nat → Nat} (h : Inv r e L p) {j : Nat} (hj : j < r) (c : Nat) : Over (det r (fun k j => e k (p j))) (fct r) (L j c) := by
  have h1 := cramer r (fun k j => e k (p j)) j hj (fun k => L k c) (fun i => e i c) (fun i hi => by
    rw [h.span i hi c]
    exact sumR_congr fun k _ => Rat.mul_comm ..)
  unfold Over
  rw [← h1]
  refine det_intB r _ fun i hi k _ => ?_
  unfold setC
  split
  · exact h.bit i hi c
  · exact h.bit i hi _
/-- An equation less the first k that are led. -/
def part (v : Nat → Rat) (L : Nat → Nat → Rat) (p : Nat → Nat) (k : Nat) : Nat → Rat := fun c => v c - sumR k fun j => v (p j) * L j c
theorem part_succ (v : Nat → Rat) (L : Nat → Nat → Rat) (p : Nat → Nat) (k c : Nat) : part v L p (k + 1) c = part v L p k c - v (p k) * L k c := by
  unfold part
  simp only [sumR]
  grind
/-- What it still has at a place that is led. -/
theorem Inv.part_at {r : Nat} {e L : Nat → Nat → Rat} {p : Nat → Nat} (h : Inv r e L p) (v : Nat → Rat) {k j : Nat} (hk : k ≤ r) (hj : j < r) : part v L p k (p j) = if j < k then 0 else v (p j) := by
  unfold part
  split
  · rename_i hjk
    rw [sumR_one hjk (fun i hi hn => by rw [h.unit i (by omega) j hj, if_neg hn, Rat.mul_zero]), h.unit j hj j hj, if_pos rfl]
    grind
  · rw [sumR_zero (fun i hi => by rw [h.unit i (by omega) j hj, if_neg (by omega), Rat.mul_zero])]
    grind
theorem sumR_scale (n : Nat) (f : Nat → Rat) (D : Rat) : sumR n f * D = sumR n fun i => f i * D := by
  induction n with
  | zero => exact Rat.zero_mul D
  | succ n ih => simp only [sumR]; rw [Rat.add_mul, ih]
theorem Inv.part_over {r : Nat} {e L : Nat → Nat → Rat} {p : Nat → Nat} (h : Inv r e L p) {v : Nat → Rat} (hv : ∀ c, Bit (v c)) {k : Nat} (hk : k ≤ r) (c : Nat) : Over (det r (fun k j => e k (p j))) ((k + 1) * fct r) (part v L p k c) := by
  unfold Over part
  rw [Rat.sub_eq_add_neg, Rat.add_mul, Rat.neg_mul, sumR_scale]
  have h1 := ((hv c).intB).mul h.den
  have h2 : IntB (k * fct r) (sumR k fun i => v (p i) * L i c * det r (fun k j => e k (p j))) := IntB.sum fun i hi => by
    rw [Rat.mul_assoc]
    exact ((hv (p i)).intB.mul (h.over (by omega) c)).mono (by omega)
  exact (h1.add h2.neg).mono (by rw [Nat.add_mul k 1]; omega)

def upd {α : Type} (f : Nat → α) (r : Nat) (v : α) : Nat → α := fun j => if j = r then v else f j
theorem Inv.more {r : Nat} {e L : Nat → Nat → Rat} {p : Nat → Nat} (h : Inv r e L p) {v : Nat → Rat} (hv : ∀ c, Bit (v c)) {q : Nat} (hq : part v L p r q ≠ 0) {L' : Nat → Nat → Rat} {p' : Nat → Nat} (hp : ∀ j, j < r → p' j = p j) (hpr : p' r = q)
    (hr : ∀ c, L' r c = part v L p r c / part v L p r q) (hl : ∀ j, j < r → ∀ c, L' j c = L j c - L j q * L' r c) : Inv (r + 1) (upd e r v) L' p' := by
  have eP : ∀ f : Nat → Rat, (sumR r fun j => f (p' j)) = sumR r fun j => f (p j) := fun f => sumR_congr fun j hj => by rw [hp j hj]
  have hz : ∀ j, j < r → part v L p r (p j) = 0 := fun j hj => by rw [h.part_at v (Nat.le_refl r) hj, if_pos hj]
  have hrz : ∀ j, j < r → L' r (p j) = 0 := fun j hj => by rw [hr, hz j hj, Rat.div_def, Rat.zero_mul]
  have hrq : L' r q = 1 := by rw [hr, Rat.div_def, Rat.mul_inv_cancel _ hq]
  have hx : ∀ c, part v L p r c = part v L p r q * L' r c := fun c => by
    rw [hr, Rat.div_def, ← Rat.mul_assoc, Rat.mul_comm (part v L p r q), Rat.mul_assoc, Rat.mul_inv_cancel _ hq, Rat.mul_one]
  -- what a row of weights gives by the new ones
  have hS : ∀ (u : Nat → Rat) (c : Nat), (sumR r fun j => u (p' j) * L' j c) = (sumR r fun j => u (p j) * L j c) - (sumR r fun j => u (p j) * L j q) * L' r c := fun u c => by
    have e1 : (sumR r fun j => u (p' j) * L' j c) = sumR r fun j => 1 * (u (p j) * L j c) + (- L' r c) * (u (p j) * L j q) := sumR_congr fun j hj => by
      rw [hp j hj, hl j hj]; grind
    rw [e1, sumR_lin]; grind
  refine ⟨fun k hk c => ?_, fun k hk c => ?_, fun j hj k hk => ?_, ?_⟩
  · unfold upd
    split
    · exact hv c
    · exact h.bit k (by omega) c
  · show _ = (sumR r fun j => upd e r v k (p' j) * L' j c) + upd e r v k (p' r) * L' r c
    rw [hS (upd e r v k) c, hpr]
    by_cases ek : k = r
    · have eu : upd e r v k = v := by unfold upd; rw [if_pos ek]
      rw [eu]
      have h1 : (sumR r fun j => v (p j) * L j c) = v c - part v L p r c := by unfold part; grind
      have h2 : (sumR r fun j => v (p j) * L j q) = v q - part v L p r q := by unfold part; grind
      rw [h1, h2, hx c]; grind
    · have eu : upd e r v k = e k := by unfold upd; rw [if_neg ek]
      rw [eu, ← h.span k (by omega) c, ← h.span k (by omega) q]; grind
  · by_cases ej : j = r
    · subst ej
      by_cases ek : k = j
      · subst ek
        rw [hpr, hrq, if_pos rfl]
      · rw [hp k (by omega), hrz k (by omega), if_neg (fun e' => ek e'.symm)]
    · rw [hl j (by omega)]
      by_cases ek : k = r
      · subst ek
        rw [hpr, hrq, if_neg ej]; grind
      · rw [hp k (by omega), hrz k (by omega), h.unit j (by omega) k (by omega)]; grind
  · have hD := det_more r (fun k j => upd e r v k (p' j)) (fun j => L j q) (fun i hi => by
      show upd e r v i (p' r) = _
      have eu : upd e r v i = e i := by unfold upd; rw [if_neg (by omega)]
      rw [eu, hpr, h.span i hi q]
      exact sumR_congr fun j hj => by
        rw [hp j hj]; exact Rat.mul_comm ..)
    rw [hD]
    have e1 : det r (fun k j => upd e r v k (p' j)) = det r (fun k j => e k (p j)) := det_congr fun i hi j hj => by
      show upd e r v i (p' j) = _
      unfold upd
      rw [if_neg (by omega), hp j hj]
    have e2 : (upd e r v r (p' r) - sumR r fun k => L k q * upd e r v r (p' k)) = part v L p r q := by
      have eu : upd e r v r = v := by unfold upd; rw [if_pos rfl]
      rw [eu, hpr]
      unfold part
      congr 1
      exact sumR_congr fun j hj => by rw [hp j hj]; exact Rat.mul_comm ..
    rw [e1]
    show (upd e r v r (p' r) - sumR r fun k => L k q * upd e r v r (p' k)) * _ ≠ 0
    rw [e2]
    intro h0
    rcases Rat.mul_eq_zero.1 h0 with h0 | h0
    · exact hq h0
    · exact h.dne h0
end Go.Proofs.YtbkekdbabkncfaaGreat.Det

namespace Go.Proofs.YtbkekdbabkncfaaGreat
open Go.RowKit Go.Maps

/-- In lowest terms. -/
def FrcOk (x : Frc) : Prop := 1 ≤ x.d ∧ Int.gcd x.n x.d = 1
def val (x : Frc) : Rat := (x.n : Rat) / (x.d : Rat)
theorem int_ne {z : Int} (h : z ≠ 0) : (z : Rat) ≠ 0 := fun e => h (Rat.intCast_eq_zero_iff.1 e)
theorem FrcOk.dne {x : Frc} (h : FrcOk x) : (x.d : Rat) ≠ 0 := int_ne (by have := h.1; omega)
theorem val_mul {x : Frc} (h : FrcOk x) : val x * (x.d : Rat) = (x.n : Rat) := by
  unfold val
  rw [Rat.div_def, Rat.mul_assoc, Rat.inv_mul_cancel _ h.dne, Rat.mul_one]
theorem val_eq {x : Frc} (h : FrcOk x) {q : Rat} (hq : q * (x.d : Rat) = (x.n : Rat)) : val x = q := by
  unfold val
  rw [Rat.div_def, ← hq, Rat.mul_assoc, Rat.mul_inv_cancel _ h.dne, Rat.mul_one]
theorem ratF_ok (n : Int) {d : Int} (hd : d ≠ 0) : FrcOk (ratF n d) ∧ val (ratF n d) * (d : Rat) = (n : Rat) := by
  have hg : 0 < Int.gcd n d := Int.gcd_pos_of_ne_zero_right n hd
  have hg' : gcdI n d ≠ 0 := by unfold gcdI; omega
  have e1 : n = n / gcdI n d * gcdI n d := by
    have : gcdI n d ∣ n := by unfold gcdI; exact Int.gcd_dvd_left ..
    exact (Int.ediv_mul_cancel this).symm
  have e2 : d = d / gcdI n d * gcdI n d := by
    have : gcdI n d ∣ d := by unfold gcdI; exact Int.gcd_dvd_right ..
    exact (Int.ediv_mul_cancel this).symm
  have e3 : Int.gcd (n / gcdI n d) (d / gcdI n d) = 1 := by
    unfold gcdI; exact Int.gcd_ediv_gcd_ediv_gcd hg
  have hd2 : d / gcdI n d ≠ 0 := fun h => hd (by rw [e2, h, Int.zero_mul])
  have hgp : 0 < gcdI n d := by unfold gcdI; omega
  have key : FrcOk (ratF n d) ∧ (ratF n d).n * d = n * (ratF n d).d := by
    unfold ratF
    split
    · rename_i hneg
      refine ⟨⟨?_, ?_⟩, ?_⟩
      · have : d / gcdI n d < 0 := Int.ediv_neg_of_neg_of_pos hneg hgp
        show 1 ≤ -(d / gcdI n d)
        omega
      · show Int.gcd (-(n / gcdI n d)) (-(d / gcdI n d)) = 1
        rw [Int.neg_gcd, Int.gcd_neg, e3]
      · show -(n / gcdI n d) * d = n * -(d / gcdI n d)
        generalize n / gcdI n d = a at *
        generalize d / gcdI n d = b at *
        rw [e1, e2]; grind
    · rename_i hneg
      refine ⟨⟨?_, e3⟩, ?_⟩
      · have : 0 ≤ d / gcdI n d := Int.ediv_nonneg (by omega) (by omega)
        show 1 ≤ d / gcdI n d
        omega
      · show n / gcdI n d * d = n * (d / gcdI n d)
        generalize n / gcdI n d = a at *
        generalize d / gcdI n d = b at *
        rw [e1, e2]; grind
  refine ⟨key.1, ?_⟩
  have h1 := val_mul key.1
  have h2 : ((ratF n d).n : Rat) * (d : Rat) = (n : Rat) * ((ratF n d).d : Rat) := by
    rw [← Rat.intCast_mul, ← Rat.intCast_mul, key.2]
  have h3 := key.1.dne
  have h4 : val (ratF n d) * (d : Rat) * ((ratF n d).d : Rat) = (n : Rat) * ((ratF n d).d : Rat) := by
    rw [← h2, ← h1]; grind
  have h5 : (val (ratF n d) * (d : Rat) - n) * ((ratF n d).d : Rat) = 0 := by grind
  rcases Rat.mul_eq_zero.1 h5 with h | h
  · grind
  · exact absurd h h3
theorem intF_ok (n : Int) : FrcOk (intF n) ∧ val (intF n) = (n : Rat) := by
  have h : FrcOk (intF n) := ⟨Int.le_refl 1, by show Int.gcd n 1 = 1; simp⟩
  refine ⟨h, val_eq h ?_⟩
  show (n : Rat) * ((1 : Int) : Rat) = n
  exact Rat.mul_one _
/-- One value of two over a number that is not 0. -/
theorem val_of {x q d n : Rat} (hd : d ≠ 0) (h1 : x * d = n) (h2 : q * d = n) : x = q := by
  have h : (x - q) * d = 0 := by grind
  rcases Rat.mul_eq_zero.1 h with h | h
  · grind
  · exact absurd h hd
theorem subF_ok {a b : Frc} (ha : FrcOk a) (hb : FrcOk b) : FrcOk (subF a b) ∧ val (subF a b) = val a - val b := by
  have hd : a.d * b.d ≠ 0 := fun h => by
    rcases Int.mul_eq_zero.1 h with h | h
    · have := ha.1; omega
    · have := hb.1; omega
  obtain ⟨h1, h2⟩ := ratF_ok (a.n * b.d - b.n * a.d) hd
  refine ⟨h1, val_of (int_ne hd) h2 ?_⟩
  rw [Rat.intCast_sub, Rat.intCast_mul, Rat.intCast_mul, Rat.intCast_mul, ← val_mul ha, ← val_mul hb]; grind
theorem mulF_ok {a b : Frc} (ha : FrcOk a) (hb : FrcOk b) : FrcOk (mulF a b) ∧ val (mulF a b) = val a * val b := by
  have hd : a.d * b.d ≠ 0 := fun h => by
    rcases Int.mul_eq_zero.1 h with h | h
    · have := ha.1; omega
    · have := hb.1; omega
  obtain ⟨h1, h2⟩ := ratF_ok (a.n * b.n) hd
  refine ⟨h1, val_of (int_ne hd) h2 ?_⟩
  rw [Rat.intCast_mul, Rat.intCast_mul, ← val_mul ha, ← val_mul hb]; grind
theorem val_zero {x : Frc} (h : FrcOk x) : val x = 0 ↔ x.n = 0 := by
  constructor
  · intro e
    have := val_mul h
    rw [e, Rat.zero_mul] at this
    exact Rat.intCast_eq_zero_iff.1 this.symm
  · intro e
    refine val_eq h ?_
    rw [e, Rat.zero_mul]; rfl
theorem divF_ok {a b : Frc} (ha : FrcOk a) (hb : FrcOk b) (hz : b.n ≠ 0) : FrcOk (divF a b) ∧ val (divF a b) = val a / val b := by
  have hd : a.d * b.n ≠ 0 := fun h => by
    rcases Int.mul_eq_zero.1 h with h | h
    · have := ha.1; omega
    · exact hz h
  obtain ⟨h1, h2⟩ := ratF_ok (a.n * b.d) hd
  have hv : val b ≠ 0 := fun e => hz ((val_zero hb).1 e)
  refine ⟨h1, val_of (int_ne hd) h2 ?_⟩
  rw [Rat.intCast_mul, Rat.intCast_mul, ← val_mul ha, ← val_mul hb, Rat.div_def]
  have : val b * (val b)⁻¹ = 1 := Rat.mul_inv_cancel _ hv
  grind
theorem someF_ok {x : Frc} (h : FrcOk x) : someF x = decide (val x ≠ 0) := by
  unfold someF
  by_cases e : x = ⟨0, 1⟩
  · have : val x = 0 := (val_zero h).2 (by rw [e])
    rw [this, e]; simp
  · have : val x ≠ 0 := fun e0 => e (by
      have hn := (val_zero h).1 e0
      have hg := h.2
      rw [hn] at hg
      have h1 := h.1
      obtain ⟨n, d⟩ := x
      simp at hn hg h1 ⊢
      omega)
    simp [e, this]
open Det in
/-- Fractions over D are no greater than what is over D, and than D. -/
theorem over_bd {x : Frc} (h : FrcOk x) {D : Rat} {a b : Nat} (hx : Over D a (val x)) (hD : IntB b D) (hz : D ≠ 0) : x.n.natAbs ≤ a ∧ x.d ≤ (b : Int) := by
  obtain ⟨N, e1, hN⟩ := hx
  obtain ⟨E, e2, hE⟩ := hD
  have hE0 : E ≠ 0 := fun e => hz (by rw [e2, e]; rfl)
  have k : x.n * E = N * x.d := by
    have h1 := val_mul h
    have h2 : ((x.n * E : Int) : Rat) = ((N * x.d : Int) : Rat) := by
      rw [Rat.intCast_mul, Rat.intCast_mul, ← e1, ← e2, ← h1]; grind
    exact Rat.intCast_inj.1 h2
  have hd1 := h.1
  have hco : Nat.Coprime x.d.natAbs x.n.natAbs := by
    have := h.2
    rw [Int.gcd_comm] at this; exact this
  have c1 : x.d.natAbs ∣ E.natAbs := by
    have h1 : x.d.natAbs ∣ x.n.natAbs * E.natAbs := ⟨N.natAbs, by rw [← Int.natAbs_mul, k, Int.natAbs_mul]; exact Nat.mul_comm ..⟩
    exact hco.dvd_of_dvd_mul_left h1
  have c2 : x.n.natAbs ∣ N.natAbs := by
    have h1 : x.n.natAbs ∣ N.natAbs * x.d.natAbs := ⟨E.natAbs, by rw [← Int.natAbs_mul, ← k, Int.natAbs_mul]⟩
    exact hco.symm.dvd_of_dvd_mul_right h1
  constructor
  · by_cases hn : N = 0
    · rw [hn, Int.zero_mul] at k
      rcases Int.mul_eq_zero.1 k with k | k
      · rw [k]; simp
      · exact absurd k hE0
    · exact Nat.le_trans (Nat.le_of_dvd (by omega) c2) hN
  · have := Nat.le_of_dvd (by omega) c1
    omega
end Go.Proofs.YtbkekdbabkncfaaGreat

namespace Go.Proofs.YtbkekdbabkncfaaGreat
open Go.RowKit Go.Maps Det

def col (S : Nat) (e : Eqn) (c : Nat) : Rat := if c < S then val (e.fs.getD c default) else val (e.ps.getD (c - S) default)
structure EqOk (S m : Nat) (e : Eqn) : Prop where
  fl : e.fs.length = S
  pl : e.ps.length = m
  fo : ∀ x ∈ e.fs, FrcOk x
  po : ∀ x ∈ e.ps, FrcOk x
theorem dflt_ok : FrcOk (default : Frc) ∧ val (default : Frc) = 0 := ⟨⟨Int.le_refl 1, by decide⟩, (val_zero ⟨Int.le_refl 1, by decide⟩).2 rfl⟩
theorem getD_beyond {α : Type} (l : List α) (d : α) {i : Nat} (h : l.length ≤ i) : l.getD i d = d := by
  rw [List.getD_eq_getElem?_getD, List.getElem?_eq_none h]; rfl
theorem getD_ok {l : List Frc} (h : ∀ x ∈ l, FrcOk x) (i : Nat) : FrcOk (l.getD i default) := by
  by_cases hi : i < l.length
  · rw [getD_lt l _ hi]; exact h _ (List.getElem_mem hi)
  · rw [getD_beyond l _ (by omega)]; exact dflt_ok.1
theorem less_ok {l o : List Frc} {n : Frc} (hl : ∀ x ∈ l, FrcOk x) (ho : ∀ x ∈ o, FrcOk x) (hn : FrcOk n) (hlen : l.length = o.length) : (lessL l n o).length = l.length ∧ (∀ x ∈ lessL l n o, FrcOk x) ∧ ∀ i, val ((lessL l n o).getD i default) = val (l.getD i default) - val n * val (o.getD i default) := by
  have e0 : (lessL l n o).length = l.length := by unfold lessL; rw [List.length_zipWith]; omega
  have e1 : ∀ i, (hi : i < l.length) → (lessL l n o).getD i default = subF (l.getD i default) (mulF n (o.getD i default)) := fun i hi => by
    rw [getD_lt _ _ (by omega : i < (lessL l n o).length), getD_lt l _ hi, getD_lt o _ (by omega : i < o.length)]
    unfold lessL
    rw [List.getElem_zipWith]
  have e2 : ∀ i, i < l.length → FrcOk ((lessL l n o).getD i default) ∧ val ((lessL l n o).getD i default) = val (l.getD i default) - val n * val (o.getD i default) := fun i hi => by
    have h1 := mulF_ok hn (getD_ok ho i)
    have h2 := subF_ok (getD_ok hl i) h1.1
    rw [e1 i hi]
    exact ⟨h2.1, by rw [h2.2, h1.2]⟩
  refine ⟨e0, fun x hx => ?_, fun i => ?_⟩
  · obtain ⟨i, hi, rfl⟩ := List.mem_iff_getElem.1 hx
    have := (e2 i (by omega)).1
    rwa [getD_lt _ _ hi] at this
  · by_cases hi : i < l.length
    · exact (e2 i hi).2
    · rw [getD_beyond _ _ (by omega), getD_beyond l _ (by omega), getD_beyond o _ (by omega), dflt_ok.2]; grind
theorem div_ok {l : List Frc} {n : Frc} (hl : ∀ x ∈ l, FrcOk x) (hn : FrcOk n) (hz : n.n ≠ 0) : (divL l n).length = l.length ∧ (∀ x ∈ divL l n, FrcOk x) ∧ ∀ i, val ((divL l n).getD i default) = val (l.getD i default) / val n := by
  have e0 : (divL l n).length = l.length := by unfold divL; simp
  refine ⟨e0, fun x hx => ?_, fun i => ?_⟩
  · unfold divL at hx
    rw [List.mem_map] at hx
    obtain ⟨y, hy, rfl⟩ := hx
    exact (divF_ok (hl y hy) hn hz).1
  · by_cases hi : i < l.length
    · rw [getD_lt _ _ (by omega : i < (divL l n).length), getD_lt l _ hi]
      unfold divL
      rw [List.getElem_map, (divF_ok (hl _ (List.getElem_mem hi)) hn hz).2]
    · rw [getD_beyond _ _ (by omega), getD_beyond l _ (by omega), dflt_ok.2, Rat.div_def, Rat.zero_mul]
theorem EqOk.fget {S m : Nat} {e : Eqn} (_h : EqOk S m e) {c : Nat} (hc : c < S) : val (e.fs.getD c default) = col S e c := by unfold col; rw [if_pos hc]
theorem col_wit {S m : Nat} {e : Eqn} {l : Led} (h : EqOk S m e) (hl : EqOk S m l.e) (ha : l.at_ < S) : EqOk S m (witE e l) ∧ ∀ c, col S (witE e l) c = col S e c - col S e l.at_ * col S l.e c := by
  have hn := getD_ok h.fo l.at_
  obtain ⟨a1, a2, a3⟩ := less_ok h.fo hl.fo hn (by rw [h.fl, hl.fl])
  obtain ⟨b1, b2, b3⟩ := less_ok h.po hl.po hn (by rw [h.pl, hl.pl])
  refine ⟨⟨a1.trans h.fl, b1.trans h.pl, a2, b2⟩, fun c => ?_⟩
  rw [← h.fget ha]
  unfold col
  split
  · exact a3 c
  · exact b3 (c - S)
theorem fnd_spec {l : List Frc} (h : (fndF l 0).isNone = false) : (fndF l 0).getD 0 < l.length ∧ someF (l.getD ((fndF l 0).getD 0) default) = true := by
  cases he : fndF l 0 with
  | none => rw [he] at h; simp at h
  | some i =>
    unfold fndF at he
    have h1 := List.find?_some he
    have h2 := List.mem_of_find?_eq_some he
    rw [List.mem_range] at h2
    simp at h1
    exact ⟨h2, by simpa using h1⟩
theorem col_lead {S m : Nat} {e : Eqn} (h : EqOk S m e) (he : empE e = false) : EqOk S m (leadE e).e ∧ (leadE e).at_ < S ∧ (e.fs.getD (leadE e).at_ default).n ≠ 0 ∧ col S e (leadE e).at_ ≠ 0 ∧ ∀ c, col S (leadE e).e c = col S e c / col S e (leadE e).at_ := by
  obtain ⟨h1, h2⟩ := fnd_spec he
  have hS : (leadE e).at_ < S := by rw [← h.fl]; exact h1
  have hn := getD_ok h.fo (leadE e).at_
  rw [someF_ok (getD_ok h.fo _)] at h2
  have hv : val (e.fs.getD (leadE e).at_ default) ≠ 0 := of_decide_eq_true h2
  have hz : (e.fs.getD (leadE e).at_ default).n ≠ 0 := fun e0 => hv ((val_zero hn).2 e0)
  obtain ⟨a1, a2, a3⟩ := div_ok h.fo hn hz
  obtain ⟨b1, b2, b3⟩ := div_ok h.po hn hz
  refine ⟨⟨a1.trans h.fl, b1.trans h.pl, a2, b2⟩, hS, hz, by rw [← h.fget hS]; exact hv, fun c => ?_⟩
  rw [← h.fget hS]
  unfold col
  split
  · exact a3 c
  · exact b3 (c - S)
theorem bd_of {x : Frc} (h : FrcOk x) {D : Rat} {a b : Nat} (hx : Over D a (val x)) (hD : IntB b D) (hz : D ≠ 0) (ha : a ≤ 1000000000) (hb : b ≤ 1000000000) : bdF x = true := by
  obtain ⟨h1, h2⟩ := over_bd h hx hD hz
  rw [bdF_iff]
  have := h.1
  omega
/-- All numbers of an equation are over D. -/
theorem EqOk.bd {S m : Nat} {e : Eqn} (h : EqOk S m e) {D : Rat} {a b : Nat} (hx : ∀ c, Over D a (col S e c)) (hD : IntB b D) (hz : D ≠ 0) (ha : a ≤ 1000000000) (hb : b ≤ 1000000000) : e.fs.all bdF = true ∧ e.ps.all bdF = true := by
  rw [List.all_eq_true, List.all_eq_true]
  constructor
  · intro x hm
    obtain ⟨i, hi, rfl⟩ := List.mem_iff_getElem.1 hm
    have h1 := hx i
    rw [← h.fget (by rw [← h.fl]; exact hi), getD_lt _ _ hi] at h1
    exact bd_of (h.fo _ hm) h1 hD hz ha hb
  · intro x hm
    obtain ⟨i, hi, rfl⟩ := List.mem_iff_getElem.1 hm
    have h1 := hx (S + i)
    unfold col at h1
    rw [if_neg (by omega), Nat.add_sub_cancel_left, getD_lt _ _ hi] at h1
    exact bd_of (h.po _ hm) h1 hD hz ha hb
theorem EqOk.bdn {S m : Nat} {e : Eqn} (h : EqOk S m e) {D : Rat} {a b : Nat} (hx : ∀ c, Over D a (col S e c)) (hD : IntB b D) (hz : D ≠ 0) (ha : a ≤ 1000000000) (hb : b ≤ 1000000000) {i : Nat} (hi : i < S) : bdF (e.fs.getD i default) = true := by
  have h1 := hx i
  rw [← h.fget hi] at h1
  exact bd_of (getD_ok h.fo i) h1 hD hz ha hb
/-- The bounds of 'without'. -/
theorem wit_bd {S m : Nat} {e : Eqn} {l : Led} (h : EqOk S m e) (hl : EqOk S m l.e) (ha : l.at_ < S) {D D' E : Rat} {a b a' b' a'' b'' : Nat}
    (h1 : ∀ c, Over D a (col S e c)) (hD : IntB b D) (hz : D ≠ 0) (h2 : ∀ c, Over D' a' (col S l.e c)) (hD' : IntB b' D') (hz' : D' ≠ 0) (h3 : ∀ c, Over E a'' (col S e l.at_ * col S l.e c)) (hE : IntB b'' E) (hzE : E ≠ 0)
    (q1 : a ≤ 1000000000) (q2 : b ≤ 1000000000) (q3 : a' ≤ 1000000000) (q4 : b' ≤ 1000000000) (q5 : a'' ≤ 1000000000) (q6 : b'' ≤ 1000000000) : witB e l = true := by
  obtain ⟨x1, x2⟩ := h.bd h1 hD hz q1 q2
  obtain ⟨y1, y2⟩ := hl.bd h2 hD' hz' q3 q4
  have x3 := h.bdn h1 hD hz q1 q2 ha
  have hn := getD_ok h.fo l.at_
  have z1 : l.e.fs.all (fun g => bdF (mulF (e.fs.getD l.at_ default) g)) = true := by
    rw [List.all_eq_true]
    intro x hm
    obtain ⟨i, hi, rfl⟩ := List.mem_iff_getElem.1 hm
    have k := mulF_ok hn (hl.fo _ hm)
    have h4 := h3 i
    rw [← h.fget ha, ← hl.fget (by rw [← hl.fl]; exact hi), getD_lt l.e.fs _ hi, ← k.2] at h4
    exact bd_of k.1 h4 hE hzE q5 q6
  have z2 : l.e.ps.all (fun g => bdF (mulF (e.fs.getD l.at_ default) g)) = true := by
    rw [List.all_eq_true]
    intro x hm
    obtain ⟨i, hi, rfl⟩ := List.mem_iff_getElem.1 hm
    have k := mulF_ok hn (hl.po _ hm)
    have h4 := h3 (S + i)
    rw [← h.fget ha] at h4
    unfold col at h4
    rw [if_neg (by omega), Nat.add_sub_cancel_left, getD_lt l.e.ps _ hi, ← k.2] at h4
    exact bd_of k.1 h4 hE hzE q5 q6
  unfold witB lessB
  rw [x1, x2, x3, y1, y2, z1, z2]
  have := h.fl; have := hl.fl; have := h.pl; have := hl.pl
  simp
  omega
end Go.Proofs.YtbkekdbabkncfaaGreat

namespace Go.Proofs.YtbkekdbabkncfaaGreat
open Go.RowKit Go.Maps Det

def dE : Led := ⟨⟨[], []⟩, 0⟩
def Lf (S : Nat) (ls : List Led) : Nat → Nat → Rat := fun j c => col S (ls.getD j dE).e c
def Pf (ls : List Led) : Nat → Nat := fun j => (ls.getD j dE).at_
structure LOk (S m : Nat) (ls : List Led) : Prop where
  wf : ∀ l ∈ ls, EqOk S m l.e ∧ l.at_ < S
  inv : ∃ e, Inv ls.length e (Lf S ls) (Pf ls)
theorem LOk.nil (S m : Nat) : LOk S m [] := ⟨fun _ h => by simp at h, fun _ _ => 0, Inv.nil _ _ _⟩
theorem fct7 {r : Nat} (h : r ≤ 7) : fct r ≤ 5040 := Nat.le_trans (fct_le h) (by decide)
theorem fct8 {r : Nat} (h : r ≤ 8) : fct r ≤ 40320 := Nat.le_trans (fct_le h) (by decide)
theorem red_ok {S m : Nat} {ls : List Led} (hw : ∀ l ∈ ls, EqOk S m l.e ∧ l.at_ < S) {e : Nat → Nat → Rat} (h : Inv ls.length e (Lf S ls) (Pf ls)) (hr : ls.length ≤ 7) {v : Nat → Rat} (hv : ∀ c, Bit (v c)) :
    ∀ (suf pre : List Led) (x : Eqn), ls = pre ++ suf → EqOk S m x → (∀ c, col S x c = Det.part v (Lf S ls) (Pf ls) pre.length c) →
      redB suf x = true ∧ ∀ y, redE suf x = some y → EqOk S m y ∧ (∀ c, col S y c = Det.part v (Lf S ls) (Pf ls) ls.length c) ∧ (empE x = false → empE y = false)
  | [], pre, x, hs, hx, hc => by
    refine ⟨rfl, fun y hy => ?_⟩
    simp only [redE, Option.some.injEq] at hy
    subst hy
    rw [List.append_nil] at hs
    exact ⟨hx, by rw [hs] at hc ⊢; exact hc, id⟩
  | l :: r, pre, x, hs, hx, hc => by
    have hlen : ls.length = pre.length + (r.length + 1) := by rw [hs]; simp
    have hk : pre.length < ls.length := by omega
    have hg : ls.getD pre.length dE = l := by
      rw [getD_lt _ _ hk]
      simp [hs]
    have hm : l ∈ ls := by rw [hs]; simp
    obtain ⟨hl, ha⟩ := hw l hm
    have eL : ∀ c, Lf S ls pre.length c = col S l.e c := fun c => by unfold Lf; rw [hg]
    have eP : Pf ls pre.length = l.at_ := by unfold Pf; rw [hg]
    have hf := fct7 hr
    have hat : col S x l.at_ = v l.at_ := by
      have := h.part_at v (k := pre.length) (j := pre.length) (by omega) hk
      rw [if_neg (Nat.lt_irrefl _), eP] at this
      rw [hc, this]
    have hover : ∀ c, Over (det ls.length (fun k j => e k (Pf ls j))) (fct ls.length) (col S l.e c) := fun c => by rw [← eL]; exact h.over hk c
    obtain ⟨hE, hC⟩ := col_wit hx hl ha
    have hB : witB x l = true := wit_bd hx hl ha (a := (pre.length + 1) * fct ls.length) (fun c => by rw [hc]; exact h.part_over hv (by omega) c) h.den h.dne hover h.den h.dne (a'' := fct ls.length) (fun c => by
        rw [hat]
        unfold Over
        rw [Rat.mul_assoc]
        exact ((hv l.at_).intB.mul (hover c)).mono (by omega)) h.den h.dne
      (by have h1 : (pre.length + 1) * fct ls.length ≤ 8 * 5040 := Nat.mul_le_mul (by omega) hf
          omega) (by omega) (by omega) (by omega) (by omega) (by omega)
    have ih := red_ok hw h hr hv r (pre ++ [l]) (witE x l) (by rw [hs]; simp) hE (fun c => by
      rw [hC, hc, hat, List.length_append]
      show _ = Det.part v (Lf S ls) (Pf ls) (pre.length + 1) c
      rw [part_succ, eL, eP])
    refine ⟨by simp only [redB, hB, ih.1, Bool.or_true, Bool.and_true], fun y hy => ?_⟩
    unfold redE at hy
    split at hy
    · exact absurd hy (by simp)
    · rename_i hne
      obtain ⟨k1, k2, k3⟩ := ih.2 y hy
      exact ⟨k1, k2, fun _ => k3 (by simpa using hne)⟩
theorem sol_ok {S m : Nat} {ls : List Led} (h : LOk S m ls) (hr : ls.length ≤ 7) {x : Eqn} (hx : EqOk S m x) (hb : ∀ c, Bit (col S x c)) (hn : empE x = false) : solB1 ls x = true ∧ LOk S m (solS ls x) := by
  obtain ⟨hw, e, hi⟩ := h
  obtain ⟨r1, r2⟩ := red_ok hw hi hr hb ls [] x rfl hx (fun c => by
    show _ = col S x c - 0
    grind)
  unfold solB1 solS
  rw [r1]
  cases hy : redE ls x with
  | none => exact ⟨rfl, hw, e, hi⟩
  | some y =>
    obtain ⟨k1, k2, k3⟩ := r2 y hy
    have hf := fct7 hr
    obtain ⟨l1, l2, l3, l4, l5⟩ := col_lead k1 (k3 hn)
    have hover : ∀ c, Over (det ls.length (fun k j => e k (Pf ls j))) (fct (ls.length + 1)) (col S y c) := fun c => by rw [k2]; exact hi.part_over hb (Nat.le_refl _) c
    have hf8 := fct8 (show ls.length + 1 ≤ 8 by omega)
    have hjl : (joinL ls (leadE y)).length = ls.length + 1 := by unfold joinL; simp
    have hj1 : ∀ j, j < ls.length → (joinL ls (leadE y)).getD j dE = ⟨witE (ls.getD j dE).e (leadE y), (ls.getD j dE).at_⟩ := fun j hj => by
      rw [getD_lt _ _ (by omega : j < (joinL ls (leadE y)).length), getD_lt _ _ hj]
      unfold joinL
      rw [List.getElem_append_left (by simpa using hj), List.getElem_map]
    have hj2 : (joinL ls (leadE y)).getD ls.length dE = leadE y := by
      rw [getD_lt _ _ (by omega : ls.length < (joinL ls (leadE y)).length)]
      unfold joinL
      rw [List.getElem_append_right (by simp)]
      simp
    have hget : ∀ j, j < ls.length → ls.getD j dE ∈ ls := fun j hj => by rw [getD_lt _ _ hj]; exact List.getElem_mem hj
    have hN : Inv (ls.length + 1) (upd e ls.length (col S x)) (Lf S (joinL ls (leadE y))) (Pf (joinL ls (leadE y))) := by
      refine hi.more hb (q := (leadE y).at_) (by rw [← k2]; exact l4) (fun j hj => ?_) ?_ (fun c => ?_) (fun j hj c => ?_)
      · unfold Pf; rw [hj1 j hj]
      · unfold Pf; rw [hj2]
      · unfold Lf; rw [hj2, l5, k2, k2]; rfl
      · have hwj := hw _ (hget j hj)
        unfold Lf
        rw [hj1 j hj, hj2]
        exact (col_wit hwj.1 l1 l2).2 c
    have hlead : leadB y = true := by
      obtain ⟨b1, b2⟩ := k1.bd hover hi.den hi.dne (by omega) (by omega)
      have b3 := k1.bdn hover hi.den hi.dne (by omega) (by omega) l2
      have : leadB y = (!(empE y) && (y.fs.all bdF && bdF (y.fs.getD (leadE y).at_ default) && decide ((y.fs.getD (leadE y).at_ default).n ≠ 0)) && (y.ps.all bdF && bdF (y.fs.getD (leadE y).at_ default) && decide ((y.fs.getD (leadE y).at_ default).n ≠ 0))) := rfl
      rw [this, k3 hn, b1, b2, b3, decide_eq_true l3]
      rfl
    have hoverN : ∀ c, Over (det (ls.length + 1) (fun k j => upd e ls.length (col S x) k (Pf (joinL ls (leadE y)) j))) (fct (ls.length + 1)) (col S (leadE y).e c) := fun c => by
      have := hN.over (j := ls.length) (by omega) c
      have e1 : Lf S (joinL ls (leadE y)) ls.length c = col S (leadE y).e c := by unfold Lf; rw [hj2]
      rwa [e1] at this
    have hjoin : joinB ls (leadE y) = true := by
      unfold joinB
      rw [List.all_eq_true]
      intro l hl
      obtain ⟨j, hj, rfl⟩ := List.mem_iff_getElem.1 hl
      have hwj := hw _ hl
      have ho : ∀ c, Over (det ls.length (fun k j => e k (Pf ls j))) (fct ls.length) (col S ls[j].e c) := fun c => by
        have := hi.over hj c
        unfold Lf at this
        rwa [getD_lt _ _ hj] at this
      have hmul : fct ls.length * fct (ls.length + 1) ≤ 5040 * 40320 := Nat.mul_le_mul hf hf8
      refine wit_bd hwj.1 l1 l2 ho hi.den hi.dne hoverN hN.den hN.dne (E := det ls.length (fun k j => e k (Pf ls j)) * det (ls.length + 1) (fun k j => upd e ls.length (col S x) k (Pf (joinL ls (leadE y)) j))) (a'' := fct ls.length * fct (ls.length + 1)) (fun c => ?_) (hi.den.mul hN.den) (fun h0 => ?_) (by omega) (by omega) (by omega) (by omega) (by omega) (by omega)
      · have := (ho (leadE y).at_).mul (hoverN c)
        have e1 : ∀ a b c d : Rat, a * b * (c * d) = a * c * (b * d) := fun a b c d => by grind
        unfold Over
        rw [e1]; exact this
      · rcases Rat.mul_eq_zero.1 h0 with h0 | h0
        · exact hi.dne h0
        · exact hN.dne h0
    refine ⟨by simp only []; rw [hlead, hjoin]; rfl, ⟨fun l hl => ?_, upd e ls.length (col S x), by rw [hjl]; exact hN⟩⟩
    unfold joinL at hl
    rw [List.mem_append, List.mem_map] at hl
    rcases hl with ⟨z, hz, rfl⟩ | hl
    · have hwz := hw z hz
      exact ⟨(col_wit hwz.1 l1 l2).1, hwz.2⟩
    · rw [List.mem_singleton] at hl
      subst hl
      exact ⟨l1, l2⟩
end Go.Proofs.YtbkekdbabkncfaaGreat
