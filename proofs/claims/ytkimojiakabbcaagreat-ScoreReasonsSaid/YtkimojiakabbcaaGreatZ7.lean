/- Reasons by the reference and by the program: the same. -/
import Derived.Test.YtkimojiakabbcaaGreatWQ4
import Derived.Test.YtkimojiakabbcaaGreatRP7
import Derived.Test.YtkimojiakabbcaaGreatSPrg1
import Derived.Deep.Strs
import Derived.Lib.SmallJoins
import Derived.ProofKit
import Derived.OpenShut
import Derived.Test.YtkimojiakabbcaaGreatZ6
import Derived.Test.YtkimojiakabbcaaGreatSTwin1
import Derived.Test.YtkimojiakabbcaaGreatRows

namespace Go.Proofs.YtkimojiakabbcaaGreat

/-! The values of a set, put in their places. -/
def ySel (x u : List Int) (b k : Nat) : Int := if bitN b k = true then u.getD (setB b k).length 0 else x.getD k 0
def fillC (x : List Int) (b : Nat) : Nat → Nat → List Int → List Int
  | _, 0, _ => []
  | k, n + 1, u => if bitN b k = true then u.headD 0 :: fillC x b (k + 1) n u.tail else x.getD k 0 :: fillC x b (k + 1) n u
theorem fillC_succ (x : List Int) (b k n : Nat) (u : List Int) : fillC x b k (n + 1) u = if bitN b k = true then u.headD 0 :: fillC x b (k + 1) n u.tail else x.getD k 0 :: fillC x b (k + 1) n u := rfl
theorem vecs_consZ (l : List Int) (r : List (List Int)) : vecs (l :: r) = l.flatMap fun v => (vecs r).map (v :: ·) := rfl
theorem setB_snoc (b k : Nat) : (setB b (k + 1)).length = (setB b k).length + if bitN b k = true then 1 else 0 := by
  rw [setB_succ]
  by_cases h : bitN b k = true <;> simp [h]
theorem fillC_eq (x u : List Int) (b : Nat) : ∀ n k, fillC x b k n (u.drop (setB b k).length) = (List.range n).map fun j => ySel x u b (k + j)
  | 0, _ => rfl
  | n + 1, k => by
    have ih := fillC_eq x u b n (k + 1)
    rw [List.range_succ_eq_map, List.map_cons, List.map_map]
    have e : ((fun j => ySel x u b (k + j)) ∘ Nat.succ) = fun j => ySel x u b (k + 1 + j) := by
      funext j
      show ySel x u b (k + (j + 1)) = _
      rw [show k + (j + 1) = k + 1 + j by omega]
    rw [e, ← ih, setB_snoc, fillC_succ]
    by_cases h : bitN b k = true
    · rw [if_pos h, if_pos h]
      have h1 : (u.drop (setB b k).length).headD 0 = ySel x u b (k + 0) := by
        unfold ySel
        rw [Nat.add_zero, if_pos h]
        rw [List.headD_eq_head?_getD, List.head?_drop, List.getD_eq_getElem?_getD]
      rw [h1, List.tail_drop]
    · rw [if_neg h, if_neg h]
      have h1 : x.getD k 0 = ySel x u b (k + 0) := by unfold ySel; rw [Nat.add_zero, if_neg h]
      rw [h1]
      rfl
theorem putV_take (x u : List Int) (s t : List Int) : ∀ i, i ≤ s.length → putV x (s ++ t) u i = putV x s u i
  | 0, _ => rfl
  | i + 1, h => by
    unfold putV
    rw [putV_take x u s t i (by omega)]
    congr 1
    rw [List.getD_eq_getElem?_getD, List.getElem?_append_left (by omega), ← List.getD_eq_getElem?_getD]
theorem putV_eq (x u : List Int) (b : Nat) : ∀ k, k ≤ x.length → putV x (setB b k) u (setB b k).length = ((List.range k).map (ySel x u b)) ++ x.drop k
  | 0, _ => by simp [setB, putV]
  | k + 1, hk => by
    have ih := putV_eq x u b k (by omega)
    rw [List.range_succ, List.map_append]
    have hd : x.drop k = x.getD k 0 :: x.drop (k + 1) := by
      rw [getD_lt _ _ (by omega)]
      exact List.drop_eq_getElem_cons (by omega)
    by_cases h : bitN b k = true
    · have e : setB b (k + 1) = setB b k ++ [(k : Int)] := by rw [setB_succ, if_pos h]
      rw [e, List.length_append]
      show putV x (setB b k ++ [(k : Int)]) u ((setB b k).length + 1) = _
      unfold putV
      rw [putV_take x u _ _ _ (Nat.le_refl _), ih]
      have e2 : (setB b k ++ [(k : Int)]).getD (setB b k).length 0 = k := by
        rw [List.getD_eq_getElem?_getD, List.getElem?_append_right (Nat.le_refl _)]
        simp
      rw [e2, Int.toNat_natCast, hd]
      have e3 : ySel x u b k = u.getD (setB b k).length 0 := by unfold ySel; rw [if_pos h]
      rw [List.set_append_right _ _ (by simp)]
      simp [e3]
    · have e : setB b (k + 1) = setB b k := by rw [setB_succ, if_neg h, List.append_nil]
      rw [e, ih, hd]
      have e3 : ySel x u b k = x.getD k 0 := by unfold ySel; rw [if_neg h]
      simp [e3]
theorem putV_all (x u : List Int) (b : Nat) : putV x (setB b x.length) u (setB b x.length).length = fillC x b 0 x.length u := by
  have h1 := putV_eq x u b x.length (Nat.le_refl _)
  have h2 := fillC_eq x u b x.length 0
  rw [List.drop_of_length_le (Nat.le_refl _), List.append_nil] at h1
  rw [h1]
  have e : (setB b 0).length = 0 := by have := setB_len b 0; omega
  rw [e, List.drop_zero] at h2
  rw [h2]
  simp only [Nat.zero_add]
theorem pick_fill (x u : List Int) (b : Nat) (T : Nat) (hT : T ≤ x.length) (hu : (setB b T).length ≤ u.length) : ((setB b T).map fun k => ((List.range x.length).map (ySel x u b)).getD k.toNat 0) = u.take (setB b T).length := by
  induction T with
  | zero => have e : setB b 0 = [] := List.eq_nil_of_length_eq_zero (by have := setB_len b 0; omega)
            rw [e]; simp
  | succ k ih =>
    by_cases h : bitN b k = true
    · have e : setB b (k + 1) = setB b k ++ [(k : Int)] := by rw [setB_succ, if_pos h]
      rw [e] at hu ⊢
      rw [List.length_append, List.length_singleton] at hu ⊢
      rw [List.map_append, ih (by omega) (by omega)]
      rw [List.map_singleton, Int.toNat_natCast, getD_lt _ _ (by rw [List.length_map, List.length_range]; omega)]
      rw [List.take_succ_eq_append_getElem (by omega)]
      congr 2
      simp only [List.getElem_map, List.getElem_range]
      unfold ySel
      rw [if_pos h, getD_lt _ _ (by omega)]
    · have e : setB b (k + 1) = setB b k := by rw [setB_succ, if_neg h, List.append_nil]
      rw [e] at hu ⊢
      exact ih (by omega) hu

/-! All vectors of a set. -/
theorem vecs_fill (x : List Int) (b : Nat) (f : Nat → List Int) : ∀ n k, vecs ((List.range' k n).map fun j => if bitN b j = true then f j else [x.getD j 0]) = (vecs (((List.range' k n).filter (bitN b)).map f)).map (fillC x b k n)
  | 0, _ => rfl
  | n + 1, k => by
    have ih := vecs_fill x b f n (k + 1)
    rw [List.range'_succ, List.map_cons]
    by_cases h : bitN b k = true
    · rw [if_pos h, List.filter_cons_of_pos h, List.map_cons, vecs_consZ, vecs_consZ, ih, List.map_flatMap]
      congr 1
      funext v
      rw [List.map_map, List.map_map]
      congr 1
      funext u
      simp [fillC, h]
    · rw [if_neg h, List.filter_cons_of_neg (by simpa using h)]
      rw [vecs_consZ, ih]
      simp only [List.flatMap_cons, List.flatMap_nil, List.append_nil, List.map_map]
      congr 1
      funext u
      simp [fillC, h]
theorem stepsI_point (v : Int) (cs : List Int) : stepsI v v cs = [v] := by
  unfold stepsI
  suffices h : ∀ a : List Int, cs.foldl (fun a c => if spanIn v v c = true then putI a c else a) a = a from h _
  induction cs with
  | nil => exact fun _ => rfl
  | cons c cs ih =>
    intro a
    rw [List.foldl_cons, if_neg (by unfold spanIn; simp)]
    exact ih a
theorem stepsL_free (m : Mdl) (x : List Int) (b : Nat) : stepsL m (freeL x (setB b x.length)) = (List.range' 0 x.length).map fun j => if bitN b j = true then stepsI 0 1000000 (cutsT m j) else [x.getD j 0] := by
  unfold stepsL
  rw [freeL_len, ← List.range_eq_range']
  refine List.map_congr_left fun k hk => ?_
  have hk := List.mem_range.1 hk
  have e : (freeL x (setB b x.length)).getD k default = freeS x (setB b x.length) k := by
    unfold freeL
    rw [getD_lt _ _ (by simpa using hk)]
    simp
  rw [e]
  unfold freeS
  by_cases h : bitN b k = true
  · rw [if_pos (setB_mem.2 ⟨hk, h⟩), if_pos h]
  · rw [if_neg (fun h2 => h (setB_mem.1 h2).2), if_neg h]
    exact stepsI_point _ _
theorem setL_eq (m : Mdl) (T b : Nat) : setL m (setB b T) = ((List.range' 0 T).filter (bitN b)).map fun j => stepsI 0 1000000 (cutsT m j) := by
  unfold setL setB
  rw [List.map_map, ← List.range_eq_range']
  refine List.map_congr_left fun k _ => ?_
  simp
theorem vecs_lenZ : ∀ (L : List (List Int)) (v : List Int), v ∈ vecs L → v.length = L.length
  | [], v, h => by simp [vecs] at h; simp [h]
  | l :: r, v, h => by
    unfold vecs at h
    obtain ⟨a, _, h2⟩ := List.mem_flatMap.1 h
    obtain ⟨u, hu, rfl⟩ := List.mem_map.1 h2
    simp [vecs_lenZ r u hu]
/-- One set: the first values by which the answer is another one. -/
theorem oth_first (m : Mdl) (x : List Int) (b : Nat) (yes : Bool) (hy : yes = wasB m.need (scoreM m x)) : othR m x (setB b x.length) yes = (firstR (fun y => wasB m.need (scoreM m y)) (wasB m.need (scoreM m x)) (fun s => vecs (stepsL m (freeL x s))) (setB b x.length)).map (pickV (setB b x.length)) := by
  unfold othR firstR
  dsimp only
  rw [stepsL_free, vecs_fill, setL_eq, List.find?_map, Option.map_map]
  have hp : ((fun y => wasB m.need (scoreM m y) != wasB m.need (scoreM m x)) ∘ fillC x b 0 x.length) = fun u => decide (1000 * m.need ≤ scoreM m (putV x (setB b x.length) u (setB b x.length).length)) != yes := by
    funext u
    rw [putV_all, hy]
    rfl
  rw [hp]
  cases hf : (vecs (((List.range' 0 x.length).filter (bitN b)).map fun j => stepsI 0 1000000 (cutsT m j))).find? (fun u => decide (1000 * m.need ≤ scoreM m (putV x (setB b x.length) u (setB b x.length).length)) != yes) with
  | none => rfl
  | some u =>
    have hl := vecs_lenZ _ _ (List.mem_of_find?_eq_some hf)
    rw [← setL_eq, setL_len] at hl
    show some u = some (pickV _ (fillC x b 0 x.length u))
    have h2 := fillC_eq x u b x.length 0
    have e : (setB b 0).length = 0 := by have := setB_len b 0; omega
    rw [e, List.drop_zero] at h2
    simp only [Nat.zero_add] at h2
    rw [h2]
    have h3 := pick_fill x u b x.length (Nat.le_refl _) (by omega)
    unfold pickV
    rw [show (fun j => ySel x u b j) = ySel x u b from rfl, h3, List.take_of_length_le (by omega)]

/-! The least of all sets. -/
theorem cmpS_lt {l s : List Int} : (s.length < l.length → ¬ cmpS l s < 0) ∧ (l.length < s.length → cmpS l s < 0) ∧ (l.length = s.length → (cmpS l s < 0 ↔ cmpL l s < 0)) := by
  refine ⟨fun h h2 => ?_, fun h => ?_, fun h => ?_⟩
  · unfold cmpS at h2
    have : ¬ cmpI (l.length : Int) s.length < 0 := fun h3 => by have := cmpI_neg.1 h3; omega
    have : cmpI (l.length : Int) s.length ≠ 0 := fun h3 => by have := cmpI_zero.1 h3; omega
    rw [if_pos this] at h2
    omega
  · unfold cmpS
    have := cmpI_neg.2 (show (l.length : Int) < s.length by omega)
    rw [if_pos (by omega)]
    exact this
  · unfold cmpS
    rw [if_neg (by rw [cmpI_zero.2 (by omega)]; simp)]
theorem stepB_cmp (g : List Int → Option (List Int)) (l s v : List Int) : stepB g l (some (s, v)) = if cmpS l s < 0 then (match g l with | none => some (s, v) | some u => some (l, u)) else some (s, v) := by
  rw [stepB_some]
  rcases Nat.lt_trichotomy s.length l.length with h | h | h
  · rw [if_pos h, if_neg (cmpS_lt.1 h)]
  · rw [if_neg (by omega), if_neg (by omega)]
    by_cases h2 : cmpL l s < 0
    · rw [if_pos h2, if_pos ((cmpS_lt.2.2 h.symm).2 h2)]
      cases g l <;> rfl
    · rw [if_neg h2, if_neg (fun h3 => h2 ((cmpS_lt.2.2 h.symm).1 h3))]
  · rw [if_neg (by omega), if_pos h, if_pos (cmpS_lt.2.1 h)]
    cases g l <;> rfl
theorem best_inv (g : List Int → Option (List Int)) (T : Nat) : ∀ n, (bestB g T n = none ∧ ∀ b, 1 ≤ b → b ≤ n → g (setB b T) = none) ∨ ∃ c v, bestB g T n = some (setB c T, v) ∧ 1 ≤ c ∧ c ≤ n ∧ g (setB c T) = some v ∧ ∀ b, 1 ≤ b → b ≤ n → g (setB b T) ≠ none → ¬ cmpS (setB b T) (setB c T) < 0
  | 0 => .inl ⟨rfl, fun b h1 h2 => by omega⟩
  | n + 1 => by
    have e : bestB g T (n + 1) = stepB g (setB (n + 1) T) (bestB g T n) := rfl
    rcases best_inv g T n with ⟨h1, h2⟩ | ⟨c, v, h1, h2, h3, h4, h5⟩
    · cases hg : g (setB (n + 1) T) with
      | none =>
        refine .inl ⟨by rw [e, h1]; unfold stepB; rw [hg]; rfl, fun b hb1 hb2 => ?_⟩
        rcases Nat.lt_or_ge b (n + 1) with h | h
        · exact h2 b hb1 (by omega)
        · obtain rfl : b = n + 1 := by omega
          exact hg
      | some u =>
        refine .inr ⟨n + 1, u, by rw [e, h1]; unfold stepB; rw [hg]; rfl, by omega, Nat.le_refl _, hg, fun b hb1 hb2 hb3 => ?_⟩
        rcases Nat.lt_or_ge b (n + 1) with h | h
        · exact absurd (h2 b hb1 (by omega)) hb3
        · obtain rfl : b = n + 1 := by omega
          exact cmpS_irrefl _
    · rw [h1, stepB_cmp] at e
      by_cases hc : cmpS (setB (n + 1) T) (setB c T) < 0
      · rw [if_pos hc] at e
        cases hg : g (setB (n + 1) T) with
        | none =>
          rw [hg] at e
          refine .inr ⟨c, v, e, h2, by omega, h4, fun b hb1 hb2 hb3 => ?_⟩
          rcases Nat.lt_or_ge b (n + 1) with h | h
          · exact h5 b hb1 (by omega) hb3
          · obtain rfl : b = n + 1 := by omega
            exact absurd hg hb3
        | some u =>
          rw [hg] at e
          refine .inr ⟨n + 1, u, e, by omega, Nat.le_refl _, hg, fun b hb1 hb2 hb3 => ?_⟩
          rcases Nat.lt_or_ge b (n + 1) with h | h
          · exact fun h9 => h5 b hb1 (by omega) hb3 (cmpS_trans h9 hc)
          · obtain rfl : b = n + 1 := by omega
            exact cmpS_irrefl _
      · rw [if_neg hc] at e
        refine .inr ⟨c, v, e, h2, by omega, h4, fun b hb1 hb2 hb3 => ?_⟩
        rcases Nat.lt_or_ge b (n + 1) with h | h
        · exact h5 b hb1 (by omega) hb3
        · obtain rfl : b = n + 1 := by omega
          exact hc
theorem best_find (g : List Int → Option (List Int)) (T : Nat) (h0 : g (setB 0 T) = none) : bestB g T (2 ^ T - 1) = (setsS T).findSome? fun s => (g s).map (Prod.mk s) := by
  have hpos := Nat.two_pow_pos T
  have hmem : ∀ s ∈ setsS T, ∃ b, b ≤ 2 ^ T - 1 ∧ s = setB b T := fun s hs => by
    obtain ⟨b, hb, rfl⟩ := List.mem_map.1 ((setsS_perm T).mem_iff.1 hs)
    exact ⟨b, by have := List.mem_range.1 hb; omega, rfl⟩
  rcases best_inv g T (2 ^ T - 1) with ⟨h1, h2⟩ | ⟨c, v, h1, h2, h3, h4, h5⟩
  · rw [h1, eq_comm, List.findSome?_eq_none_iff]
    intro s hs
    obtain ⟨b, hb, rfl⟩ := hmem s hs
    rcases Nat.eq_zero_or_pos b with rfl | hb1
    · rw [h0]; rfl
    · rw [h2 b hb1 hb]; rfl
  · rw [h1, eq_comm, List.findSome?_eq_some_iff]
    have hin : setB c T ∈ setsS T := (setsS_perm T).mem_iff.2 (List.mem_map.2 ⟨c, List.mem_range.2 (by omega), rfl⟩)
    obtain ⟨l1, l2, hl⟩ := List.append_of_mem hin
    refine ⟨l1, setB c T, l2, hl, by rw [h4]; rfl, fun t ht => ?_⟩
    have hso := setsS_sorted T
    rw [hl] at hso
    have hlt := (List.pairwise_append.1 hso).2.2 t ht (setB c T) (by simp)
    obtain ⟨b, hb, rfl⟩ := hmem t (by rw [hl]; simp [ht])
    cases hg : g (setB b T) with
    | none => rfl
    | some u =>
      rcases Nat.eq_zero_or_pos b with rfl | hb1
      · rw [h0] at hg; cases hg
      · exact absurd hlt (h5 b hb1 hb (by rw [hg]; simp))
theorem ref_rea (m : Mdl) (x : List Int) (hE : forE m x = 0) : refR m x = reaR m x := by
  have hy : scY m x = wasB m.need (scoreM m x) := by unfold scY; rw [if_pos hE]; rfl
  unfold refR
  have hz : setB 0 x.length = [] := by
    unfold setB
    rw [List.filter_eq_nil_iff.2 (fun k _ => by unfold bitN; simp)]
    rfl
  rw [best_find _ _ (by
    rw [hz]
    unfold othR
    have e : setL m [] = [] := rfl
    rw [e]
    show ([[]] : List (List Int)).find? _ = none
    rw [List.find?_cons_of_neg]
    · rfl
    · show ¬ (decide (1000 * m.need ≤ scoreM m x) != scY m x) = true
      rw [hy]
      show ¬ (wasB m.need (scoreM m x) != wasB m.need (scoreM m x)) = true
      simp)]
  unfold reaR reasR
  have hmem : ∀ s ∈ setsS x.length, (othR m x s (scY m x)).map (Prod.mk s) = (firstR (fun y => wasB m.need (scoreM m y)) (wasB m.need (scoreM m x)) (fun s => vecs (stepsL m (freeL x s))) s).map fun y => (s, pickV s y) := fun s hs => by
    obtain ⟨b, _, rfl⟩ := List.mem_map.1 ((setsS_perm _).mem_iff.1 hs)
    rw [oth_first m x b _ hy, Option.map_map]
    rfl
  revert hmem
  generalize setsS x.length = L
  intro hmem
  induction L with
  | nil => rfl
  | cons s r ih =>
    rw [List.findSome?_cons, List.findSome?_cons, hmem s (by simp), ih (fun t ht => hmem t (by simp [ht]))]
theorem ref_all (m : Mdl) (x : List Int) : refS m x = reaS m x ∧ refV m x = reaV m x ∧ refE m x = reaE m x := by
  by_cases hE : forE m x = 0
  · unfold refS reaS refV reaV refE reaE
    rw [if_pos hE, if_pos hE, if_pos hE, if_pos hE, if_pos hE, if_pos hE, ref_rea m x hE]
    exact ⟨rfl, rfl, rfl⟩
  · unfold refS reaS refV reaV refE reaE
    rw [if_neg hE, if_neg hE, if_neg hE, if_neg hE, if_neg hE, if_neg hE]
    exact ⟨rfl, rfl, rfl⟩
end Go.Proofs.YtkimojiakabbcaaGreat

namespace Go.Proofs.YtkimojiakabbcaaGreat
open Go.ChangeShapes Go.WideShapes Go.ChangeAt Go.RowKit Go.Deep

section
variable {H : Type} {enc : TypeId × Value → H} {w : World} {base : Nat} {spare : Nat → Bool} {held : Bool}

theorem plain_of_cell {w : World} {a : Addr} {v : Value} (h : w.cell? a = some v) : a = ⟨a.block, a.off, none⟩ := by
  obtain ⟨b, o, s⟩ := a
  cases s with
  | none => rfl
  | some s => exfalso; unfold World.cell? at h; split at h <;> simp at h

set_option maxRecDepth 100000 in
/-- A slice whose elements open. -/
theorem flat_of_trod {α : Type} [Inhabited α] {n : Nat} {f : α → List Value} {P : α → Prop} (h0 : 0 < n) (hn : ∀ z, (f z).length = n) {ts te : TypeId} (hT : Tryz.prog.underlying ts = some (.slice te)) (hC : Tryz.prog.cellsOf te = n)
    (each : ∀ (m : Nat) (cs : List Value) (x : DataW H × List MemPlace), DataW.trod enc Tryz.prog w base spare held m te cs = some x → cs.length = n → ∃ z : α, cs = f z ∧ P z) {fuel : Nat} {v : Value} {x : DataW H × List MemPlace} (h : DataW.trod enc Tryz.prog w base spare held fuel ts [v] = some x) :
    ∃ A c l, v = .slice A (List.length l) c ∧ Flat n f w w.heap.size A l ∧ (∀ z ∈ l, P z) ∧ l.length ≤ maxLen := by
  rcases open_slice hT h with ⟨hc, _⟩ | ⟨a, len, cap, m, n', Dx, Pl, hc, _, hl, hm, hmm, _, hcell⟩
  · simp only [List.cons.injEq, and_true] at hc
    exact ⟨none, 0, [], by simpa using hc, Flat.nil _ _ _ _ _, fun z hz => by simp at hz, by simp [maxLen]⟩
  · simp only [List.cons.injEq, and_true] at hc
    have hlm : len ≤ m := by rw [hmm]; split <;> omega
    have each' : ∀ i, i < len → ∃ z : α, (∀ j, j < n → w.cell? (a.add (i * n + j)) = (f z)[j]?) ∧ P z := fun i hi => by
      obtain ⟨cs', h1, h2⟩ := hcell i (by omega)
      rw [hC] at h1
      obtain ⟨_, hlen, hat⟩ := World.cells?_some h1
      obtain ⟨z, rfl, hz⟩ := each _ _ _ h2 hlen
      refine ⟨z, fun j hj => ?_, hz⟩
      rw [← Go.Addr.add_add, hat j (by omega)]
    obtain ⟨S, hS⟩ := choose_lt each'
    refine ⟨some a, cap, (List.range len).map S, by rw [hc]; simp, fun k hk => ?_, fun z hz => ?_, by simp; omega⟩
    · simp only [List.length_map, List.length_range] at hk
      obtain ⟨h1, _⟩ := hS k hk
      obtain ⟨g1, _⟩ := hS 0 (by omega)
      have h00 := g1 0 h0
      have hf0 : ∃ u, (f (S 0))[0]? = some u := ⟨_, List.getElem?_eq_getElem (by rw [hn]; exact h0)⟩
      obtain ⟨u, hu⟩ := hf0
      rw [Nat.zero_mul, Nat.add_zero, Addr.add_zero', hu] at h00
      have hp := plain_of_cell h00
      have hlt := block_lt_of_cell h00
      refine ⟨a.block, a.off, by rw [← hp], hlt, fun i hi => ?_⟩
      have := h1 i hi
      rw [hp, add_plain] at this
      simpa [Nat.add_assoc] using this
    · obtain ⟨k, hk, rfl⟩ := List.mem_map.1 hz
      exact (hS k (by simpa using hk)).2

instance : Inhabited CrdD := ⟨⟨0, 0, [], none, 0⟩⟩
theorem int_of_trod (m : Nat) (cs : List Value) (x : DataW H × List MemPlace) (h : DataW.trod enc Tryz.prog w base spare held m 3 cs = some x) (hl : cs.length = 1) : ∃ z : Int, cs = intC z ∧ (Lit.int .i64 z).wf = true := by
  match cs, hl with
  | [v], _ =>
    obtain ⟨p, e, _, wf⟩ := DataW.trod_int Tryz.underlying3 h
    exact ⟨p, e, wf⟩
theorem ints_of_trod {fuel : Nat} {v : Value} {x : DataW H × List MemPlace} (h : DataW.trod enc Tryz.prog w base spare held fuel 31 [v] = some x) :
    ∃ A c l, v = .slice A (List.length l) c ∧ Flat 1 intC w w.heap.size A l ∧ (∀ z ∈ l, (Lit.int .i64 z).wf = true) ∧ l.length ≤ maxLen :=
  flat_of_trod (P := fun z => (Lit.int .i64 z).wf = true) (by decide) intC_len Tryz.underlying31 (by kernel_rfl) (fun m cs x h hl => int_of_trod m cs x h hl) h

set_option maxRecDepth 100000 in
theorem scl_of_trod (m : Nat) (cs : List Value) (x : DataW H × List MemPlace) (h : DataW.trod enc Tryz.prog w base spare held m 59 cs = some x) :
    ∃ z : SclD, cs = sclC z ∧ SclAt w w.heap.size z := by
  have hC : Tryz.prog.cellsOf 59 = 3 := by kernel_rfl
  have kint : Tryz.prog.cellsOf 3 = 1 := by kernel_rfl
  have ks0 : Tryz.prog.cellsOf 31 = 1 := by kernel_rfl
  obtain ⟨xs, n, _, _, hcl, hxl, hg⟩ := DataW.trod_struct Tryz.underlying59 h
  rw [hC] at hcl
  match cs, hcl with
  | [v0, v1, v2], _ =>
    match xs, hxl with
    | [y0, y1, y2], _ =>
      have g0 : DataW.trod enc Tryz.prog w base spare held n 31 (([v0, v1, v2].drop 0).take (Tryz.prog.cellsOf 31)) = [y0, y1, y2][0]? := hg 0 _ rfl
      rw [ks0] at g0
      obtain ⟨A0, a0, l0, e0, hl0, hP0, _⟩ := ints_of_trod (show DataW.trod enc Tryz.prog w base spare held n 31 [v0] = some y0 from g0)
      have g1 : DataW.trod enc Tryz.prog w base spare held n 31 (([v0, v1, v2].drop 1).take (Tryz.prog.cellsOf 31)) = [y0, y1, y2][1]? := hg 1 _ rfl
      rw [ks0] at g1
      obtain ⟨A1, a1, l1, e1, hl1, hP1, _⟩ := ints_of_trod (show DataW.trod enc Tryz.prog w base spare held n 31 [v1] = some y1 from g1)
      have g2 : DataW.trod enc Tryz.prog w base spare held n 3 (([v0, v1, v2].drop 2).take (Tryz.prog.cellsOf 3)) = [y0, y1, y2][2]? := hg 2 _ rfl
      rw [kint] at g2
      obtain ⟨p2, e2, _, wf2⟩ := DataW.trod_int Tryz.underlying3 (show DataW.trod enc Tryz.prog w base spare held n 3 [v2] = some y2 from g2)
      simp only [List.cons.injEq, and_true] at e2
      subst e0 e1 e2
      exact ⟨⟨⟨l0, l1, p2⟩, A0, a0, A1, a1⟩, rfl, ⟨hl0, hl1⟩⟩

theorem scls_of_trod {fuel : Nat} {v : Value} {x : DataW H × List MemPlace} (h : DataW.trod enc Tryz.prog w base spare held fuel 55 [v] = some x) :
    ∃ A c l, v = .slice A (List.length l) c ∧ Flat 3 sclC w w.heap.size A l ∧ (∀ z ∈ l, SclAt w w.heap.size z) ∧ l.length ≤ maxLen :=
  flat_of_trod (P := fun z => SclAt w w.heap.size z) (by decide) sclC_len Tryz.underlying55 (by kernel_rfl) (fun m cs x h hl => scl_of_trod m cs x h) h

set_option maxRecDepth 100000 in
theorem crd_of_trod (m : Nat) (cs : List Value) (x : DataW H × List MemPlace) (h : DataW.trod enc Tryz.prog w base spare held m 57 cs = some x) :
    ∃ z : CrdD, cs = crdC z ∧ SclsAt w w.heap.size z.S z.scales := by
  have hC : Tryz.prog.cellsOf 57 = 3 := by kernel_rfl
  have kint : Tryz.prog.cellsOf 3 = 1 := by kernel_rfl
  have ks0 : Tryz.prog.cellsOf 55 = 1 := by kernel_rfl
  obtain ⟨xs, n, _, _, hcl, hxl, hg⟩ := DataW.trod_struct Tryz.underlying57 h
  rw [hC] at hcl
  match cs, hcl with
  | [v0, v1, v2], _ =>
    match xs, hxl with
    | [y0, y1, y2], _ =>
      have g0 : DataW.trod enc Tryz.prog w base spare held n 3 (([v0, v1, v2].drop 0).take (Tryz.prog.cellsOf 3)) = [y0, y1, y2][0]? := hg 0 _ rfl
      rw [kint] at g0
      obtain ⟨p0, e0, _, wf0⟩ := DataW.trod_int Tryz.underlying3 (show DataW.trod enc Tryz.prog w base spare held n 3 [v0] = some y0 from g0)
      have g1 : DataW.trod enc Tryz.prog w base spare held n 3 (([v0, v1, v2].drop 1).take (Tryz.prog.cellsOf 3)) = [y0, y1, y2][1]? := hg 1 _ rfl
      rw [kint] at g1
      obtain ⟨p1, e1, _, wf1⟩ := DataW.trod_int Tryz.underlying3 (show DataW.trod enc Tryz.prog w base spare held n 3 [v1] = some y1 from g1)
      have g2 : DataW.trod enc Tryz.prog w base spare held n 55 (([v0, v1, v2].drop 2).take (Tryz.prog.cellsOf 55)) = [y0, y1, y2][2]? := hg 2 _ rfl
      rw [ks0] at g2
      obtain ⟨A2, a2, l2, e2, hl2, hP2, _⟩ := scls_of_trod (show DataW.trod enc Tryz.prog w base spare held n 55 [v2] = some y2 from g2)
      simp only [List.cons.injEq, and_true] at e0 e1
      subst e0 e1 e2
      exact ⟨⟨p0, p1, l2, A2, a2⟩, rfl, ⟨hl2, hP2⟩⟩

theorem crds_of_trod {fuel : Nat} {v : Value} {x : DataW H × List MemPlace} (h : DataW.trod enc Tryz.prog w base spare held fuel 26 [v] = some x) :
    ∃ A c l, v = .slice A (List.length l) c ∧ Flat 3 crdC w w.heap.size A l ∧ (∀ z ∈ l, SclsAt w w.heap.size z.S z.scales) ∧ l.length ≤ maxLen :=
  flat_of_trod (P := fun z => SclsAt w w.heap.size z.S z.scales) (by decide) crdC_len Tryz.underlying26 (by kernel_rfl) (fun m cs x h hl => crd_of_trod m cs x h) h

set_option maxRecDepth 100000 in
theorem nod_of_trod (m : Nat) (cs : List Value) (x : DataW H × List MemPlace) (h : DataW.trod enc Tryz.prog w base spare held m 38 cs = some x) :
    ∃ z : Nod, cs = nodC z ∧ True := by
  have hC : Tryz.prog.cellsOf 38 = 5 := by kernel_rfl
  have kint : Tryz.prog.cellsOf 3 = 1 := by kernel_rfl
  obtain ⟨xs, n, _, _, hcl, hxl, hg⟩ := DataW.trod_struct Tryz.underlying38 h
  rw [hC] at hcl
  match cs, hcl with
  | [v0, v1, v2, v3, v4], _ =>
    match xs, hxl with
    | [y0, y1, y2, y3, y4], _ =>
      have g0 : DataW.trod enc Tryz.prog w base spare held n 3 (([v0, v1, v2, v3, v4].drop 0).take (Tryz.prog.cellsOf 3)) = [y0, y1, y2, y3, y4][0]? := hg 0 _ rfl
      rw [kint] at g0
      obtain ⟨p0, e0, _, wf0⟩ := DataW.trod_int Tryz.underlying3 (show DataW.trod enc Tryz.prog w base spare held n 3 [v0] = some y0 from g0)
      have g1 : DataW.trod enc Tryz.prog w base spare held n 3 (([v0, v1, v2, v3, v4].drop 1).take (Tryz.prog.cellsOf 3)) = [y0, y1, y2, y3, y4][1]? := hg 1 _ rfl
      rw [kint] at g1
      obtain ⟨p1, e1, _, wf1⟩ := DataW.trod_int Tryz.underlying3 (show DataW.trod enc Tryz.prog w base spare held n 3 [v1] = some y1 from g1)
      have g2 : DataW.trod enc Tryz.prog w base spare held n 3 (([v0, v1, v2, v3, v4].drop 2).take (Tryz.prog.cellsOf 3)) = [y0, y1, y2, y3, y4][2]? := hg 2 _ rfl
      rw [kint] at g2
      obtain ⟨p2, e2, _, wf2⟩ := DataW.trod_int Tryz.underlying3 (show DataW.trod enc Tryz.prog w base spare held n 3 [v2] = some y2 from g2)
      have g3 : DataW.trod enc Tryz.prog w base spare held n 3 (([v0, v1, v2, v3, v4].drop 3).take (Tryz.prog.cellsOf 3)) = [y0, y1, y2, y3, y4][3]? := hg 3 _ rfl
      rw [kint] at g3
      obtain ⟨p3, e3, _, wf3⟩ := DataW.trod_int Tryz.underlying3 (show DataW.trod enc Tryz.prog w base spare held n 3 [v3] = some y3 from g3)
      have g4 : DataW.trod enc Tryz.prog w base spare held n 3 (([v0, v1, v2, v3, v4].drop 4).take (Tryz.prog.cellsOf 3)) = [y0, y1, y2, y3, y4][4]? := hg 4 _ rfl
      rw [kint] at g4
      obtain ⟨p4, e4, _, wf4⟩ := DataW.trod_int Tryz.underlying3 (show DataW.trod enc Tryz.prog w base spare held n 3 [v4] = some y4 from g4)
      simp only [List.cons.injEq, and_true] at e0 e1 e2 e3 e4
      subst e0 e1 e2 e3 e4
      exact ⟨⟨p0, p1, p2, p3, p4⟩, rfl, trivial⟩

theorem nods_of_trod {fuel : Nat} {v : Value} {x : DataW H × List MemPlace} (h : DataW.trod enc Tryz.prog w base spare held fuel 39 [v] = some x) :
    ∃ A c l, v = .slice A (List.length l) c ∧ Flat 5 nodC w w.heap.size A l ∧ (∀ z ∈ l, True) ∧ l.length ≤ maxLen :=
  flat_of_trod (P := fun z => True) (by decide) nodC_len Tryz.underlying39 (by kernel_rfl) (fun m cs x h hl => nod_of_trod m cs x h) h

set_option maxRecDepth 100000 in
theorem tre_of_trod (m : Nat) (cs : List Value) (x : DataW H × List MemPlace) (h : DataW.trod enc Tryz.prog w base spare held m 41 cs = some x) :
    ∃ z : TreD, cs = treC z ∧ NodsAt w w.heap.size z.T z.v.nodes := by
  have hC : Tryz.prog.cellsOf 41 = 2 := by kernel_rfl
  have kint : Tryz.prog.cellsOf 3 = 1 := by kernel_rfl
  have ks0 : Tryz.prog.cellsOf 39 = 1 := by kernel_rfl
  obtain ⟨xs, n, _, _, hcl, hxl, hg⟩ := DataW.trod_struct Tryz.underlying41 h
  rw [hC] at hcl
  match cs, hcl with
  | [v0, v1], _ =>
    match xs, hxl with
    | [y0, y1], _ =>
      have g0 : DataW.trod enc Tryz.prog w base spare held n 3 (([v0, v1].drop 0).take (Tryz.prog.cellsOf 3)) = [y0, y1][0]? := hg 0 _ rfl
      rw [kint] at g0
      obtain ⟨p0, e0, _, wf0⟩ := DataW.trod_int Tryz.underlying3 (show DataW.trod enc Tryz.prog w base spare held n 3 [v0] = some y0 from g0)
      have g1 : DataW.trod enc Tryz.prog w base spare held n 39 (([v0, v1].drop 1).take (Tryz.prog.cellsOf 39)) = [y0, y1][1]? := hg 1 _ rfl
      rw [ks0] at g1
      obtain ⟨A1, a1, l1, e1, hl1, hP1, _⟩ := nods_of_trod (show DataW.trod enc Tryz.prog w base spare held n 39 [v1] = some y1 from g1)
      simp only [List.cons.injEq, and_true] at e0
      subst e0 e1
      exact ⟨⟨⟨p0, l1⟩, A1, a1⟩, rfl, hl1⟩

theorem tres_of_trod {fuel : Nat} {v : Value} {x : DataW H × List MemPlace} (h : DataW.trod enc Tryz.prog w base spare held fuel 27 [v] = some x) :
    ∃ A c l, v = .slice A (List.length l) c ∧ Flat 2 treC w w.heap.size A l ∧ (∀ z ∈ l, NodsAt w w.heap.size z.T z.v.nodes) ∧ l.length ≤ maxLen :=
  flat_of_trod (P := fun z => NodsAt w w.heap.size z.T z.v.nodes) (by decide) treC_len Tryz.underlying27 (by kernel_rfl) (fun m cs x h hl => tre_of_trod m cs x h) h

set_option maxRecDepth 100000 in
theorem mdl_of_trod (m : Nat) (cs : List Value) (x : DataW H × List MemPlace) (h : DataW.trod enc Tryz.prog w base spare held m 29 cs = some x) :
    ∃ z : MdlD, cs = [.int .i64 z.traits, .slice z.C z.cards.length z.c, .slice z.T z.trees.length z.t, .int .i64 z.need] ∧ MdlAt w w.heap.size z := by
  have hC : Tryz.prog.cellsOf 29 = 4 := by kernel_rfl
  have kint : Tryz.prog.cellsOf 3 = 1 := by kernel_rfl
  have ks0 : Tryz.prog.cellsOf 26 = 1 := by kernel_rfl
  have ks1 : Tryz.prog.cellsOf 27 = 1 := by kernel_rfl
  obtain ⟨xs, n, _, _, hcl, hxl, hg⟩ := DataW.trod_struct Tryz.underlying29 h
  rw [hC] at hcl
  match cs, hcl with
  | [v0, v1, v2, v3], _ =>
    match xs, hxl with
    | [y0, y1, y2, y3], _ =>
      have g0 : DataW.trod enc Tryz.prog w base spare held n 3 (([v0, v1, v2, v3].drop 0).take (Tryz.prog.cellsOf 3)) = [y0, y1, y2, y3][0]? := hg 0 _ rfl
      rw [kint] at g0
      obtain ⟨p0, e0, _, wf0⟩ := DataW.trod_int Tryz.underlying3 (show DataW.trod enc Tryz.prog w base spare held n 3 [v0] = some y0 from g0)
      have g1 : DataW.trod enc Tryz.prog w base spare held n 26 (([v0, v1, v2, v3].drop 1).take (Tryz.prog.cellsOf 26)) = [y0, y1, y2, y3][1]? := hg 1 _ rfl
      rw [ks0] at g1
      obtain ⟨A1, a1, l1, e1, hl1, hP1, _⟩ := crds_of_trod (show DataW.trod enc Tryz.prog w base spare held n 26 [v1] = some y1 from g1)
      have g2 : DataW.trod enc Tryz.prog w base spare held n 27 (([v0, v1, v2, v3].drop 2).take (Tryz.prog.cellsOf 27)) = [y0, y1, y2, y3][2]? := hg 2 _ rfl
      rw [ks1] at g2
      obtain ⟨A2, a2, l2, e2, hl2, hP2, _⟩ := tres_of_trod (show DataW.trod enc Tryz.prog w base spare held n 27 [v2] = some y2 from g2)
      have g3 : DataW.trod enc Tryz.prog w base spare held n 3 (([v0, v1, v2, v3].drop 3).take (Tryz.prog.cellsOf 3)) = [y0, y1, y2, y3][3]? := hg 3 _ rfl
      rw [kint] at g3
      obtain ⟨p3, e3, _, wf3⟩ := DataW.trod_int Tryz.underlying3 (show DataW.trod enc Tryz.prog w base spare held n 3 [v3] = some y3 from g3)
      simp only [List.cons.injEq, and_true] at e0 e3
      subst e0 e1 e2 e3
      exact ⟨⟨p0, l1, A1, a1, l2, A2, a2, p3⟩, rfl, ⟨⟨hl1, hP1⟩, ⟨hl2, hP2⟩⟩⟩

end
end Go.Proofs.YtkimojiakabbcaaGreat

namespace Go.Proofs.YtkimojiakabbcaaGreat
open Go.ChangeShapes Go.WideShapes Go.ChangeAt Go.RowKit Go.Deep Go.Maps

theorem Tryz.own : ownKnob Tryz.prog.godebug = none := by kernel_rfl
theorem Tryz.laidOut : laidOutB Tryz.prog = true := by kernel_rfl
theorem rea_lens (m : Mdl) (x : List Int) (h : x.length ≤ 10) : (reaS m x).length ≤ 1000 ∧ (reaV m x).length ≤ 1000 := by
  unfold reaS reaV
  by_cases hE : forE m x = 0
  · rw [if_pos hE, if_pos hE]
    cases hr : reaR m x with
    | none => simp
    | some sv =>
      obtain ⟨s, v⟩ := sv
      obtain ⟨h1, y, _, _, h2⟩ := reaR_some hr
      have h3 := (setsS_mem h1).1
      have h4 : v.length = s.length := by rw [h2]; unfold pickV; simp
      simp only [Option.map_some, Option.getD_some]
      omega
  · rw [if_neg hE, if_neg hE]; simp
theorem scoreReasons_all (traits need : Int) (cl : List CrdD) (tl : List TreD) (C T : Option Addr) (c t : Nat) (x : List Int) (X : Option Addr) (xc : Nat) (w : World) (h : MdlAt w w.heap.size ⟨traits, cl, C, c, tl, T, t, need⟩) (hx : IntsAt w w.heap.size X x) (hxm : x.length ≤ maxLen) :
    Calls Tryz.prog 4 #[.agg #[.int .i64 traits, .slice C cl.length c, .slice T tl.length t, .int .i64 need], .slice X x.length xc] w fun e w' => e = .returned (.bool true) ∧ Below w.heap.size w w' :=
  scoreReasons_any traits need cl tl C T c t x X xc (reaS ⟨traits, cl.map CrdD.v, tl.map TreD.v, need⟩ x) (reaV ⟨traits, cl.map CrdD.v, tl.map TreD.v, need⟩ x) (reaE ⟨traits, cl.map CrdD.v, tl.map TreD.v, need⟩ x) w h hx hxm (rea_lens _ x) (fun W' h' hls => twin6_all traits need cl tl C T c t W' h' hls)
    (fun W' h' hls hx' hl' => (reasonsR_all traits need cl tl C T c t x X xc W' h' hls hx' hl').mono fun e w' hr => by
      obtain ⟨hb, A, a, B, b, he, hA, hB⟩ := hr
      obtain ⟨e1, e2, e3⟩ := ref_all ⟨traits, cl.map CrdD.v, tl.map TreD.v, need⟩ x
      rw [e1, e2, e3] at he
      rw [e1] at hA
      rw [e2] at hB
      exact ⟨A, a, B, b, he, hA, hB, hb⟩)
    (fun cl1 tl1 C1 T1 c1 t1 hc ht X1 x1 W' hm hls hx' hl' => (reasonsP_all traits need cl1 tl1 C1 T1 c1 t1 x X1 x1 W' hm (hls.twin hc ht) hx' hl').mono fun e w' hr => by
      obtain ⟨hb, A, a, B, b, he, hA, hB⟩ := hr
      rw [hc, ht] at he hA hB
      exact ⟨A, a, B, b, he, hA, hB, hb⟩)
set_option maxRecDepth 100000 in
theorem scoreReasons_lifted (os : Os) (started : os.Started) (H : Type) (enc : TypeId × Value → H) :
    ReturnsInHanded {} Tryz.checked os 4 .any (Rows.scoreReasonsSpec.pre6 enc Tryz.prog Tryz.f4 Rows.scoreReasonsRow.domain false) (Rows.scoreReasonsSpec.post enc Tryz.prog Tryz.f4 false true false false) := by
  refine returnsInHanded_of_change (C := Tryz.checked) Tryz.own started (by kernel_rfl) Tryz.func4
    (ChangeSpec.witness6 (enc := enc) (C := Tryz.checked) false ⟨#[], #[.agg #[.int .i64 0, .slice none 0 0, .slice none 0 0, .int .i64 0], .slice none 0 0], []⟩ 8 (by kernel_rfl) (by kernel_rfl) (by kernel_rfl) (by kernel_rfl)) ?_
  intro W base args ds gs before hval0 hW _ _
  have hval : ∀ (j : Nat) t v, Tryz.f4.params[j]? = some t → args[j]? = some v → Value.okWide Tryz.prog W .any base t v := hval0
  have hW' := hW
  obtain ⟨p, q, hA0, hV, rfl, _, _⟩ := hW
  have hA : DataW.TrodAll enc Tryz.prog W 0 (fun _ => true) true Tryz.f4.params.toList args.toList ds p := hA0
  rw [Tryz.params4] at hA hval
  obtain ⟨v0, v1, d0, d1, p0, p1, rfl, rfl, rfl, h0, h1⟩ := trodAll_two hA
  obtain ⟨rfl, rfl⟩ := trodVars_none hV
  have k0 := h0
  have k1 := h1
  obtain ⟨cs0, rfl, _⟩ := okWide_struct Tryz.underlying29 (hval 0 29 v0 rfl rfl)
  obtain ⟨a1, n1, m1, rfl⟩ := okWide_slice Tryz.underlying31 (hval 1 31 v1 rfl rfl)
  obtain ⟨f0, hf0⟩ := h0
  obtain ⟨f1, hf1⟩ := h1
  obtain ⟨z, hu, hm⟩ := mdl_of_trod _ _ _ (show DataW.trod enc Tryz.prog W 0 (fun _ => true) true f0 29 cs0.toList = some (d0, p0) from hf0)
  obtain ⟨X1, xc1, x1, hs1, hx1, hb1, hl1⟩ := ints_of_trod (show DataW.trod enc Tryz.prog W 0 (fun _ => true) true f1 31 [.slice a1 n1 m1] = some (d1, p1) from hf1)
  obtain ⟨rfl, rfl, rfl⟩ : a1 = X1 ∧ n1 = x1.length ∧ m1 = xc1 := by simpa using hs1
  obtain ⟨traits, cl, C, c, tl, T, t, need⟩ := z
  obtain rfl : cs0 = #[.int .i64 traits, .slice C cl.length c, .slice T tl.length t, .int .i64 need] := by rw [← Array.toList_inj, hu]
  clear hA0 hval0 hf0 hf1
  simp only [List.append_nil] at hW'
  have hlt : ∀ y ∈ p0 ++ p1, y.block < W.heap.size := fun y hy => by simpa using hW'.lt y hy
  refine (scoreReasons_all traits need cl tl C T c t x1 a1 m1 W hm hx1 hl1).mono fun e W' ⟨he, hb⟩ => ?_
  subst he
  refine ⟨_, rfl, _, _, _, [], p0 ++ p1, [], hW', ?_, ?_, rfl, hb.frame _, fun h => by cases h⟩
  · exact trodAll_mk1 (shut_bool Tryz.underlying4 true)
  · have ht := trodAll_mk2 (Below.trod Tryz.laidOut (by kernel_rfl) (of_decide_eq_true (by kernel_rfl)) k0 hb fun y hy => hlt y (by simp [hy])) (Below.trod Tryz.laidOut (by kernel_rfl) (of_decide_eq_true (by kernel_rfl)) k1 hb fun y hy => hlt y (by simp [hy]))
    exact ht

theorem scoreReasons_holds : Rows.ScoreReasonsSaid :=
  OpenClaim.holds_of_wide 4 Tryz.f4 rfl rfl rfl rfl rfl rfl rfl ⟨rfl, rfl, rfl, rfl, rfl⟩ rfl rfl rfl rfl rfl (by kernel_rfl) Tryz.func4 (by kernel_rfl)
    (of_decide_eq_true (by kernel_rfl)) (by unfold Func.isWrapper; first | (rw [if_pos (by decide +kernel)]; kernel_rfl) | (rw [if_neg (by decide +kernel)]; exact ⟨rfl, rfl⟩))
    (fun os started H enc _ => scoreReasons_lifted os started H enc)

#print axioms scoreReasons_holds
end Go.Proofs.YtkimojiakabbcaaGreat
