/- A list of reports put in order by exchanging neighbours: what holds between two exchanges, and what a row in memory is behind one. -/
import Derived.Test.YtliijiflbfgfaaaDoorAKn

namespace Go.Proofs.YtliijiflbfgfaaaDoor
open Go.RowKit

/-- The key of the report at a place. -/
def keyAt (l : List Rep) (a : Nat) : Int := keyR (l.getD a default)
theorem keyAt_get (l : List Rep) (a : Nat) (h : a < l.length) : keyAt l a = keyR l[a] := by
  unfold keyAt; rw [List.getD_eq_getElem?_getD, List.getElem?_eq_getElem h]; rfl
theorem repCells_set (l : List Rep) (k : Nat) (hk : k < l.length) (x : Rep) :
    (l.set k x).flatMap repCells = ((((((((l.flatMap repCells).set (k * 8) (.int .i64 x.id)).set (k * 8 + 1) (.int .i64 x.src)).set (k * 8 + 2) (.int .i64 x.acc)).set (k * 8 + 3) (.int .i64 x.made)).set (k * 8 + 4) (.int .i64 x.about)).set (k * 8 + 5) (.int .u8 x.kind)).set (k * 8 + 6) (.int .i64 x.cents)).set (k * 8 + 7) (.int .i64 x.of_) := by
  apply List.ext_getElem?
  intro q
  have hL := repCells_len l
  by_cases hq : q < l.length * 8
  · have hq2 : q = q / 8 * 8 + q % 8 := by omega
    have hm : q % 8 < 8 := Nat.mod_lt _ (by omega)
    have hd : q / 8 < l.length := by omega
    have h1 := repCells_get (l.set k x) (q / 8) (by simpa using hd) (q % 8) hm
    rw [← hq2, List.getElem_set] at h1
    rw [h1]
    have h2 := repCells_get l (q / 8) hd (q % 8) hm
    rw [← hq2] at h2
    simp only [List.getElem?_set, List.length_set, hL]
    by_cases hk2 : k = q / 8
    · rw [if_pos hk2]
      subst hk2
      have h8 : q % 8 = 0 ∨ q % 8 = 1 ∨ q % 8 = 2 ∨ q % 8 = 3 ∨ q % 8 = 4 ∨ q % 8 = 5 ∨ q % 8 = 6 ∨ q % 8 = 7 := by omega
      rcases h8 with h8 | h8 | h8 | h8 | h8 | h8 | h8 | h8
      · rw [h8, if_neg (by omega), if_neg (by omega), if_neg (by omega), if_neg (by omega), if_neg (by omega), if_neg (by omega), if_neg (by omega), if_pos (by omega), if_pos (by omega)]; rfl
      · rw [h8, if_neg (by omega), if_neg (by omega), if_neg (by omega), if_neg (by omega), if_neg (by omega), if_neg (by omega), if_pos (by omega), if_pos (by omega)]; rfl
      · rw [h8, if_neg (by omega), if_neg (by omega), if_neg (by omega), if_neg (by omega), if_neg (by omega), if_pos (by omega), if_pos (by omega)]; rfl
      · rw [h8, if_neg (by omega), if_neg (by omega), if_neg (by omega), if_neg (by omega), if_pos (by omega), if_pos (by omega)]; rfl
      · rw [h8, if_neg (by omega), if_neg (by omega), if_neg (by omega), if_pos (by omega), if_pos (by omega)]; rfl
      · rw [h8, if_neg (by omega), if_neg (by omega), if_pos (by omega), if_pos (by omega)]; rfl
      · rw [h8, if_neg (by omega), if_pos (by omega), if_pos (by omega)]; rfl
      · rw [h8, if_pos (by omega), if_pos (by omega)]; rfl
    · rw [if_neg hk2, ← h2, if_neg (by omega), if_neg (by omega), if_neg (by omega), if_neg (by omega), if_neg (by omega), if_neg (by omega), if_neg (by omega), if_neg (by omega)]
  · rw [List.getElem?_eq_none (by rw [repCells_len, List.length_set]; omega), List.getElem?_eq_none (by simp only [List.length_set]; omega)]

/-- All pairs up to i are in order, but for those whose later one is k. -/
def InsInv (f : Nat → Int) (i k : Nat) : Prop := ∀ a b, a < b → b ≤ i → b ≠ k → f a ≤ f b
def swp (f : Nat → Int) (k : Nat) (a : Nat) : Int := if a = k then f (k - 1) else if a = k - 1 then f k else f a
theorem ins_start {f : Nat → Int} {i : Nat} (h : ∀ a b, a < b → b < i → f a ≤ f b) : InsInv f i i := fun a b h1 h2 h3 => h a b h1 (by omega)
theorem ins_step {f : Nat → Int} {i k : Nat} (hk : 0 < k) (hlt : f k < f (k - 1)) (h : InsInv f i k) : InsInv (swp f k) i (k - 1) := fun a b h1 h2 h3 => by
  unfold swp
  by_cases hb : b = k
  · subst hb
    rw [if_pos rfl, if_neg (by omega)]
    by_cases ha : a = b - 1
    · rw [if_pos ha]; omega
    · rw [if_neg ha]; exact h a (b - 1) (by omega) (by omega) (by omega)
  · rw [if_neg hb, if_neg h3]
    by_cases ha : a = k
    · subst ha; rw [if_pos rfl]; exact h (a - 1) b (by omega) h2 hb
    · rw [if_neg ha]
      by_cases ha2 : a = k - 1
      · rw [if_pos ha2]; exact h k b (by omega) h2 hb
      · rw [if_neg ha2]; exact h a b h1 h2 hb
theorem ins_end {f : Nat → Int} {i k : Nat} (h : InsInv f i k) (he : k = 0 ∨ f (k - 1) ≤ f k) : ∀ a b, a < b → b < i + 1 → f a ≤ f b := fun a b h1 h2 => by
  by_cases hb : b = k
  · subst hb
    rcases he with he | he
    · omega
    · by_cases ha : a = b - 1
      · rw [ha]; exact he
      · exact Int.le_trans (h a (b - 1) (by omega) (by omega) (by omega)) he
  · exact h a b h1 (by omega) hb

section
variable {α : Type}
/-- Two neighbours exchanged. -/
def swapL (l : List α) (k : Nat) (x y : α) : List α := (l.set k x).set (k - 1) y
theorem swapL_len (l : List α) (k : Nat) (x y : α) : (swapL l k x y).length = l.length := by simp [swapL]
theorem swapL_get (l : List α) (k : Nat) (hk : 0 < k) (hl : k < l.length) (a : Nat) (ha : a < l.length) : (swapL l k (l[k - 1]'(by omega)) l[k])[a]'(by rw [swapL_len]; exact ha) = if a = k then l[k - 1]'(by omega) else if a = k - 1 then l[k] else l[a] := by
  unfold swapL
  rw [List.getElem_set]
  by_cases h1 : k - 1 = a
  · rw [if_pos h1, if_neg (by omega), if_pos h1.symm]
  · rw [if_neg h1, List.getElem_set]
    by_cases h2 : k = a
    · rw [if_pos h2, if_pos h2.symm]
    · rw [if_neg h2, if_neg (fun e => h2 e.symm), if_neg (fun e => h1 e.symm)]
theorem swapL_perm (l : List α) (k : Nat) (hk : 0 < k) (hl : k < l.length) : (swapL l k (l[k - 1]'(by omega)) l[k]).Perm l := by
  obtain ⟨m, rfl⟩ : ∃ m, k = m + 1 := ⟨k - 1, by omega⟩
  have e : swapL l (m + 1) (l[m]'(by omega)) l[m + 1] = l.take m ++ l[m + 1] :: (l[m]'(by omega)) :: l.drop (m + 2) := by
    apply List.ext_getElem
    · rw [swapL_len]; simp; omega
    · intro a h1 h2
      have h3 : a < l.length := by rwa [swapL_len] at h1
      have hg := swapL_get l (m + 1) (by omega) hl a h3
      simp only [Nat.add_sub_cancel] at hg
      rw [hg]
      by_cases hm : a < m
      · rw [if_neg (by omega), if_neg (by omega), List.getElem_append_left (by simp; omega), List.getElem_take]
      · rw [List.getElem_append_right (by simp; omega)]
        simp only [List.length_take, Nat.min_eq_left (show m ≤ l.length by omega)]
        by_cases h4 : a = m
        · subst h4; simp
        · by_cases h5 : a = m + 1
          · subst h5; simp
          · rw [if_neg h5, if_neg h4]
            obtain ⟨q, rfl⟩ : ∃ q, a = m + 2 + q := ⟨a - (m + 2), by omega⟩
            simp only [show m + 2 + q - m = q + 1 + 1 by omega, List.getElem_cons_succ, List.getElem_drop]
  have e2 : l = l.take m ++ (l[m]'(by omega)) :: l[m + 1] :: l.drop (m + 2) := by
    rw [← List.drop_eq_getElem_cons, ← List.drop_eq_getElem_cons, List.take_append_drop]
  show (swapL l (m + 1) (l[m]'(by omega)) l[m + 1]).Perm l
  rw [e]
  conv => rhs; rw [e2]
  exact List.Perm.append_left _ (List.Perm.swap _ _ _)
end

theorem InsInv.congr {f f' : Nat → Int} {i k : Nat} (h : InsInv f i k) (e : ∀ a, a ≤ i → f a = f' a) : InsInv f' i k := fun a b h1 h2 h3 => by
  rw [← e a (by omega), ← e b h2]; exact h a b h1 h2 h3
end Go.Proofs.YtliijiflbfgfaaaDoor
