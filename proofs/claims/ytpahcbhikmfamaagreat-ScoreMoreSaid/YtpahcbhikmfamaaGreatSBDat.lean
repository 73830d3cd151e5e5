/- Between which scores: cuts, steps, vectors, the least and the greatest, as data. -/
import Derived.Test.YtpahcbhikmfamaaGreatRExSP1

namespace Go.Proofs.YtpahcbhikmfamaaGreat
open Go.RowKit Go.Maps

/-! Lists in increasing order. -/
def putI : List Int → Int → List Int
  | [], n => [n]
  | x :: r, n => if x < n then x :: putI r n else if x = n then x :: r else n :: x :: r
theorem putI_mem : ∀ (l : List Int) (n x : Int), x ∈ putI l n ↔ x = n ∨ x ∈ l
  | [], n, x => by simp [putI]
  | y :: r, n, x => by
    unfold putI
    split
    · rw [List.mem_cons, putI_mem r n x, List.mem_cons]; constructor
      · rintro (h | h | h) <;> simp [h]
      · rintro (h | h | h) <;> simp [h]
    · split
      · rename_i h; subst h; simp
      · simp
theorem putI_incr : ∀ (l : List Int) (n : Int), l.Pairwise (· < ·) → (putI l n).Pairwise (· < ·)
  | [], n, _ => by simp [putI]
  | y :: r, n, h => by
    obtain ⟨h1, h2⟩ := List.pairwise_cons.1 h
    unfold putI
    split
    · rename_i hlt
      refine List.pairwise_cons.2 ⟨fun z hz => ?_, putI_incr r n h2⟩
      rcases (putI_mem r n z).1 hz with rfl | hz
      · exact hlt
      · exact h1 z hz
    · split
      · exact h
      · rename_i h3 h4
        refine List.pairwise_cons.2 ⟨fun z hz => ?_, h⟩
        rcases List.mem_cons.1 hz with rfl | hz
        · omega
        · have := h1 z hz; omega
theorem incr_ext : ∀ (a b : List Int), a.Pairwise (· < ·) → b.Pairwise (· < ·) → (∀ x, x ∈ a ↔ x ∈ b) → a = b
  | [], [], _, _, _ => rfl
  | [], y :: b, _, _, h => by have := (h y).2 (List.mem_cons_self ..); simp at this
  | x :: a, [], _, _, h => by have := (h x).1 (List.mem_cons_self ..); simp at this
  | x :: a, y :: b, ha, hb, h => by
    obtain ⟨h1, h2⟩ := List.pairwise_cons.1 ha
    obtain ⟨h3, h4⟩ := List.pairwise_cons.1 hb
    have hxy : x = y := by
      rcases List.mem_cons.1 ((h x).1 (List.mem_cons_self ..)) with e | e
      · exact e
      · rcases List.mem_cons.1 ((h y).2 (List.mem_cons_self ..)) with e' | e'
        · exact e'.symm
        · have := h3 x e; have := h1 y e'; omega
    subst hxy
    congr 1
    refine incr_ext a b h2 h4 fun z => ⟨fun hz => ?_, fun hz => ?_⟩
    · rcases List.mem_cons.1 ((h z).1 (List.mem_cons_of_mem _ hz)) with e | e
      · subst e; have := h1 z hz; omega
      · exact e
    · rcases List.mem_cons.1 ((h z).2 (List.mem_cons_of_mem _ hz)) with e | e
      · subst e; have := h3 z hz; omega
      · exact e
/-- What is in a list, in order, each only once. -/
def ordI (cs : List Int) : List Int := cs.foldl putI []
theorem foldl_put (cs : List Int) : ∀ (a : List Int), a.Pairwise (· < ·) → (cs.foldl putI a).Pairwise (· < ·) ∧ ∀ x, x ∈ cs.foldl putI a ↔ x ∈ a ∨ x ∈ cs := by
  induction cs with
  | nil => exact fun a ha => ⟨ha, fun x => by simp⟩
  | cons c cs ih =>
    intro a ha
    obtain ⟨h1, h2⟩ := ih (putI a c) (putI_incr a c ha)
    refine ⟨h1, fun x => ?_⟩
    rw [List.foldl_cons, h2, putI_mem, List.mem_cons]
    constructor
    · rintro ((h | h) | h) <;> simp [h]
    · rintro (h | h | h) <;> simp [h]
theorem ordI_incr (cs : List Int) : (ordI cs).Pairwise (· < ·) := (foldl_put cs [] List.Pairwise.nil).1
theorem ordI_mem (cs : List Int) (x : Int) : x ∈ ordI cs ↔ x ∈ cs := by rw [ordI, (foldl_put cs [] List.Pairwise.nil).2]; simp
def spanIn (lo hi c : Int) : Bool := decide (lo < c) && decide (c ≤ hi)
/-- The least value, and all cuts above it, up to the greatest one. -/
def stepsI (lo hi : Int) (cs : List Int) : List Int := cs.foldl (fun a c => if spanIn lo hi c = true then putI a c else a) [lo]
theorem steps_fold (lo hi : Int) (cs : List Int) : ∀ (a : List Int), a.Pairwise (· < ·) → (cs.foldl (fun a c => if spanIn lo hi c = true then putI a c else a) a).Pairwise (· < ·) ∧ ∀ x, x ∈ cs.foldl (fun a c => if spanIn lo hi c = true then putI a c else a) a ↔ x ∈ a ∨ (x ∈ cs ∧ spanIn lo hi x = true) := by
  induction cs with
  | nil => exact fun a ha => ⟨ha, fun x => by simp⟩
  | cons c cs ih =>
    intro a ha
    rw [List.foldl_cons]
    by_cases hc : spanIn lo hi c = true
    · rw [if_pos hc]
      obtain ⟨h1, h2⟩ := ih (putI a c) (putI_incr a c ha)
      refine ⟨h1, fun x => ?_⟩
      rw [h2, putI_mem, List.mem_cons]
      constructor
      · rintro ((h | h) | h)
        · subst h; exact .inr ⟨.inl rfl, hc⟩
        · exact .inl h
        · exact .inr ⟨.inr h.1, h.2⟩
      · rintro (h | ⟨h | h, h'⟩)
        · exact .inl (.inr h)
        · exact .inl (.inl h)
        · exact .inr ⟨h, h'⟩
    · rw [if_neg hc]
      obtain ⟨h1, h2⟩ := ih a ha
      refine ⟨h1, fun x => ?_⟩
      rw [h2, List.mem_cons]
      constructor
      · rintro (h | h)
        · exact .inl h
        · exact .inr ⟨.inr h.1, h.2⟩
      · rintro (h | ⟨h | h, h'⟩)
        · exact .inl h
        · subst h; exact absurd h' hc
        · exact .inr ⟨h, h'⟩
theorem stepsI_incr (lo hi : Int) (cs : List Int) : (stepsI lo hi cs).Pairwise (· < ·) := (steps_fold lo hi cs [lo] (List.pairwise_singleton _ _)).1
theorem stepsI_mem (lo hi : Int) (cs : List Int) (x : Int) : x ∈ stepsI lo hi cs ↔ x = lo ∨ (x ∈ cs ∧ spanIn lo hi x = true) := by rw [stepsI, (steps_fold lo hi cs [lo] (List.pairwise_singleton _ _)).2]; simp
/-- The same by all cuts in order. -/
theorem typ_eq (lo hi : Int) (cs : List Int) : lo :: (ordI cs).filter (spanIn lo hi) = stepsI lo hi cs := by
  refine incr_ext _ _ ?_ (stepsI_incr lo hi cs) fun x => ?_
  · refine List.pairwise_cons.2 ⟨fun z hz => ?_, (ordI_incr cs).filter _⟩
    have := (List.mem_filter.1 hz).2
    simp [spanIn] at this
    exact this.1
  · rw [List.mem_cons, List.mem_filter, ordI_mem, stepsI_mem]

/-! The cuts of a trait. -/
def nodCuts (k : Int) (l : List Nod) : List Int := (l.filter fun n => decide (n.tr = k)).map Nod.cut
def cutsT (m : Mdl) (k : Nat) : List Int := (m.cards.flatMap fun c => (c.scales.getD k default).cuts) ++ (m.trees.flatMap fun t => nodCuts k t.nodes)
structure Spn where
  lo : Int
  hi : Int
instance : Inhabited Spn := ⟨⟨0, 0⟩⟩
def spnB (s : Spn) : Bool := inN s.lo 0 1000000 && inN s.hi s.lo 1000000
def spnsB (traits : Int) (x : List Spn) : Bool := decide ((x.length : Int) = traits) && x.all spnB
def betE (m : Mdl) (x : List Spn) : Int := if mdlB m = true then (if spnsB m.traits x = true then 0 else 61) else 60
def stepsL (m : Mdl) (x : List Spn) : List (List Int) := (List.range x.length).map fun k => stepsI (x.getD k default).lo (x.getD k default).hi (cutsT m k)

/-! All vectors, in order. -/
def vecs : List (List Int) → List (List Int)
  | [] => [[]]
  | l :: r => l.flatMap fun v => (vecs r).map (v :: ·)
def loL (l : List Int) : Int := -(l.foldl (fun a n => max a (-n)) (-9223372036854775808))
def hiL (l : List Int) : Int := l.foldl max (-9223372036854775808)
theorem loL_snoc (l : List Int) (n : Int) : loL (l ++ [n]) = min (loL l) n := by
  unfold loL; rw [List.foldl_append]; simp only [List.foldl_cons, List.foldl_nil]; omega
theorem hiL_snoc (l : List Int) (n : Int) : hiL (l ++ [n]) = max (hiL l) n := by
  unfold hiL; rw [List.foldl_append]; simp only [List.foldl_cons, List.foldl_nil]
def betV (m : Mdl) (x : List Spn) : Spn := if betE m x = 0 then ⟨loL ((vecs (stepsL m x)).map (scoreM m)), hiL ((vecs (stepsL m x)).map (scoreM m))⟩ else ⟨0, 0⟩

/-! The digits of a vector. -/
def nums : List Nat → Nat
  | [] => 1
  | n :: r => n * nums r
def digs : List Nat → Nat → List Nat
  | [], _ => []
  | _ :: r, i => i / nums r :: digs r (i % nums r)
theorem digs_len : ∀ (l : List Nat) (i : Nat), (digs l i).length = l.length
  | [], _ => rfl
  | _ :: r, i => by rw [digs, List.length_cons, digs_len r, List.length_cons]
theorem nums_pos : ∀ {l : List Nat}, (∀ n ∈ l, 0 < n) → 0 < nums l
  | [], _ => by simp [nums]
  | n :: r, h => by
    rw [nums]
    exact Nat.mul_pos (h n (List.mem_cons_self ..)) (nums_pos fun x hx => h x (List.mem_cons_of_mem _ hx))
theorem digs_lt : ∀ {l : List Nat}, (∀ n ∈ l, 0 < n) → ∀ {i : Nat}, i < nums l → ∀ (k : Nat) (hk : k < l.length) (hk' : k < (digs l i).length), (digs l i)[k] < l[k]
  | [], _, _, _, k, hk, _ => by simp at hk
  | n :: r, h, i, hi, k, hk, hk' => by
    have hp := nums_pos (l := r) fun x hx => h x (List.mem_cons_of_mem _ hx)
    cases k with
    | zero => simp only [digs, List.getElem_cons_zero]; rw [nums] at hi; exact (Nat.div_lt_iff_lt_mul hp).2 hi
    | succ k => simp only [digs, List.getElem_cons_succ]; exact digs_lt (fun x hx => h x (List.mem_cons_of_mem _ hx)) (Nat.mod_lt _ hp) k _ _
def lens (L : List (List Int)) : List Nat := L.map List.length
/-- The vector of some digits. -/
def vecD (L : List (List Int)) (d : List Nat) : List Int := (List.range L.length).map fun k => (L.getD k []).getD (d.getD k 0) 0
theorem vecD_cons (l : List Int) (L : List (List Int)) (a : Nat) (d : List Nat) : vecD (l :: L) (a :: d) = l.getD a 0 :: vecD L d := by
  unfold vecD
  rw [List.length_cons, List.range_succ_eq_map, List.map_cons, List.map_map]
  congr 1
theorem vecs_len : ∀ L : List (List Int), (vecs L).length = nums (lens L)
  | [] => rfl
  | l :: r => by
    have h : ∀ (q : List Int), (q.flatMap fun v => (vecs r).map (v :: ·)).length = q.length * (vecs r).length := by
      intro q
      induction q with
      | nil => simp
      | cons x q ih => rw [List.flatMap_cons, List.length_append, ih, List.length_map, List.length_cons, Nat.succ_mul, Nat.add_comm]
    show (l.flatMap fun v => (vecs r).map (v :: ·)).length = nums (l.length :: lens r)
    rw [h, vecs_len r]; rfl
theorem vecs_at : ∀ (L : List (List Int)), (∀ n ∈ lens L, 0 < n) → ∀ i (_hi : i < nums (lens L)), (vecs L)[i]? = some (vecD L (digs (lens L) i))
  | [], _, i, hi => by
    simp only [lens, List.map_nil, nums] at hi
    obtain rfl : i = 0 := by omega
    rfl
  | l :: r, h, i, hi => by
    have hr : ∀ n ∈ lens r, 0 < n := fun n hn => h n (List.mem_cons_of_mem _ hn)
    have hp := nums_pos hr
    have key : ∀ (q : List Int) (i : Nat), i < q.length * nums (lens r) → (q.flatMap fun v => (vecs r).map (v :: ·))[i]? = some (q.getD (i / nums (lens r)) 0 :: vecD r (digs (lens r) (i % nums (lens r)))) := by
      intro q
      induction q with
      | nil => intro i hi; simp at hi
      | cons x q ih =>
        intro i hi
        rw [List.flatMap_cons]
        by_cases hlt : i < nums (lens r)
        · rw [List.getElem?_append_left (by rw [List.length_map, vecs_len]; exact hlt), List.getElem?_map, vecs_at r hr i hlt, Nat.div_eq_of_lt hlt, Nat.mod_eq_of_lt hlt]
          rfl
        · have hge : nums (lens r) ≤ i := by omega
          rw [List.getElem?_append_right (by rw [List.length_map, vecs_len]; exact hge), List.length_map, vecs_len, ih (i - nums (lens r)) (by rw [List.length_cons, Nat.succ_mul] at hi; omega)]
          have e1 : i / nums (lens r) = (i - nums (lens r)) / nums (lens r) + 1 := by
            rw [Nat.div_eq_sub_div hp hge]
          have e2 : i % nums (lens r) = (i - nums (lens r)) % nums (lens r) := by rw [Nat.mod_eq_sub_mod hge]
          rw [e1, e2]
          rfl
    show (l.flatMap fun v => (vecs r).map (v :: ·))[i]? = some (vecD (l :: r) (digs (l.length :: lens r) i))
    rw [digs, vecD_cons, key l i (by exact hi)]
/-- The next digits: from the last one. -/
def nextD : List Nat → List Nat → Bool × List Nat
  | n :: r, a :: d => match nextD r d with
    | (true, d') => (true, a :: d')
    | (false, d') => if a + 1 < n then (true, (a + 1) :: d') else (false, 0 :: d')
  | _, _ => (false, [])
theorem nextD_last : ∀ (l : List Nat), (∀ n ∈ l, 0 < n) → nextD l (digs l (nums l - 1)) = (false, digs l 0)
  | [], _ => rfl
  | n :: r, h => by
    have hr : ∀ x ∈ r, 0 < x := fun x hx => h x (List.mem_cons_of_mem _ hx)
    have hp := nums_pos hr
    have hn := h n (List.mem_cons_self ..)
    have e1 : (n * nums r - 1) / nums r = n - 1 := by
      obtain ⟨k, rfl⟩ : ∃ k, n = k + 1 := ⟨n - 1, by omega⟩
      rw [Nat.succ_mul, Nat.add_sub_assoc (by omega), Nat.mul_comm, Nat.mul_add_div hp, Nat.div_eq_of_lt (by omega)]
      omega
    have e2 : (n * nums r - 1) % nums r = nums r - 1 := by
      obtain ⟨k, rfl⟩ : ∃ k, n = k + 1 := ⟨n - 1, by omega⟩
      rw [Nat.succ_mul, Nat.add_sub_assoc (by omega), Nat.mul_comm, Nat.mul_add_mod, Nat.mod_eq_of_lt (by omega)]
    show nextD (n :: r) ((n * nums r - 1) / nums r :: digs r ((n * nums r - 1) % nums r)) = _
    rw [e1, e2, nextD, nextD_last r hr]
    simp only
    rw [if_neg (by omega), digs, Nat.zero_div, Nat.zero_mod]
theorem nextD_step : ∀ (l : List Nat), (∀ n ∈ l, 0 < n) → ∀ i, i + 1 < nums l → nextD l (digs l i) = (true, digs l (i + 1))
  | [], _, i, hi => by simp [nums] at hi
  | n :: r, h, i, hi => by
    have hr : ∀ x ∈ r, 0 < x := fun x hx => h x (List.mem_cons_of_mem _ hx)
    have hp := nums_pos hr
    show nextD (n :: r) (i / nums r :: digs r (i % nums r)) = _
    have hdm := Nat.div_add_mod i (nums r)
    have hml := Nat.mod_lt i hp
    by_cases hlt : i % nums r + 1 < nums r
    · rw [nextD, nextD_step r hr _ hlt]
      have e : i + 1 = nums r * (i / nums r) + (i % nums r + 1) := by omega
      have e1 : (i + 1) / nums r = i / nums r := by rw [e, Nat.mul_add_div hp, Nat.div_eq_of_lt hlt, Nat.add_zero]
      have e2 : (i + 1) % nums r = i % nums r + 1 := by rw [e, Nat.mul_add_mod, Nat.mod_eq_of_lt hlt]
      simp only [digs, e1, e2]
    · have hw : i % nums r = nums r - 1 := by omega
      have e : i + 1 = nums r * (i / nums r + 1) := by rw [Nat.mul_succ]; omega
      have e1 : (i + 1) / nums r = i / nums r + 1 := by rw [e, Nat.mul_div_cancel_left _ hp]
      have e2 : (i + 1) % nums r = 0 := by rw [e, Nat.mul_mod_right]
      have hn : i / nums r + 1 < n := by
        rw [← e1]
        exact (Nat.div_lt_iff_lt_mul hp).2 (by rw [nums] at hi; exact hi)
      rw [nextD, hw, nextD_last r hr]
      simp only [digs, e1, e2, hn, if_true]
end Go.Proofs.YtpahcbhikmfamaaGreat
