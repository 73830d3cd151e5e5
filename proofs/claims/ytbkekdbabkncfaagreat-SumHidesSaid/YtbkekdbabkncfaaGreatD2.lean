/- Between which scores: cuts, steps, vectors, the least and the greatest, as data. -/
import Derived.Test.YtbkekdbabkncfaaGreatD1
import Derived.Maps.OwnIn
import Derived.Maps.OwnOps
import Derived.Lib.EndianBits

namespace Go.Proofs.YtbkekdbabkncfaaGreat
open Go.RowKit Go.Maps

/-! Lists in increasing order. -/
def putI : List Int → Int → List Int
  | [], n => [n]
  | x :: r, n => if x < n then x :: putI r n else if x = n then x :: r else n :: x :: r
theorem putI_mem : ∀ (l : List Int) (n x : Int), x ∈ putI l n ↔ x = n ∨ x ∈ l
  | [], n, x => by simp [putI]
  | y :: r, n, x => by
    unfold putI
    split
    · rw [List.mem_cons, putI_mem r n x, List.mem_cons]; constructor
      · rintro (h | h | h) <;> simp [h]
      · rintro (h | h | h) <;> simp [h]
    · split
      · rename_i h; subst h; simp
      · simp
theorem putI_incr : ∀ (l : List Int) (n : Int), l.Pairwise (· < ·) → (putI l n).Pairwise (· < ·)
  | [], n, _ => by simp [putI]
  | y :: r, n, h => by
    obtain ⟨h1, h2⟩ := List.pairwise_cons.1 h
    unfold putI
    split
    · rename_i hlt
      refine List.pairwise_cons.2 ⟨fun z hz => ?_, putI_incr r n h2⟩
      rcases (putI_mem r n z).1 hz with rfl | hz
      · exact hlt
      · exact h1 z hz
    · split
      · exact h
      · rename_i h3 h4
        refine List.pairwise_cons.2 ⟨fun z hz => ?_, h⟩
        rcases List.mem_cons.1 hz with rfl | hz
        · omega
        · have := h1 z hz; omega
theorem incr_ext : ∀ (a b : List Int), a.Pairwise (· < ·) → b.Pairwise (· < ·) → (∀ x, x ∈ a ↔ x ∈ b) → a = b
  | [], [], _, _, _ => rfl
  | [], y :: b, _, _, h => by have := (h y).2 (List.mem_cons_self ..); simp at this
  | x :: a, [], _, _, h => by have := (h x).1 (List.mem_cons_self ..); simp at this
  | x :: a, y :: b, ha, hb, h => by
    obtain ⟨h1, h2⟩ := List.pairwise_cons.1 ha
    obtain ⟨h3, h4⟩ := List.pairwise_cons.1 hb
    have hxy : x = y := by
      rcases List.mem_cons.1 ((h x).1 (List.mem_cons_self ..)) with e | e
      · exact e
      · rcases List.mem_cons.1 ((h y).2 (List.mem_cons_self ..)) with e' | e'
        · exact e'.symm
        · have := h3 x e; have := h1 y e'; omega
    subst hxy
    congr 1
    refine incr_ext a b h2 h4 fun z => ⟨fun hz => ?_, fun hz => ?_⟩
    · rcases List.mem_cons.1 ((h z).1 (List.mem_cons_of_mem _ hz)) with e | e
      · subst e; have := h1 z hz; omega
      · exact e
    · rcases List.mem_cons.1 ((h z).2 (List.mem_cons_of_mem _ hz)) with e | e
      · subst e; have := h3 z hz; omega
      · exact e
/-- What is in a list, in order, each only once. -/
def ordI (cs : List Int) : List Int := cs.foldl putI []
theorem foldl_put (cs : List Int) : ∀ (a : List Int), a.Pairwise (· < ·) → (cs.foldl putI a).Pairwise (· < ·) ∧ ∀ x, x ∈ cs.foldl putI a ↔ x ∈ a ∨ x ∈ cs := by
  induction cs with
  | nil => exact fun a ha => ⟨ha, fun x => by simp⟩
  | cons c cs ih =>
    intro a ha
    obtain ⟨h1, h2⟩ := ih (putI a c) (putI_incr a c ha)
    refine ⟨h1, fun x => ?_⟩
    rw [List.foldl_cons, h2, putI_mem, List.mem_cons]
    constructor
    · rintro ((h | h) | h) <;> simp [h]
    · rintro (h | h | h) <;> simp [h]
theorem ordI_incr (cs : List Int) : (ordI cs).Pairwise (· < ·) := (foldl_put cs [] List.Pairwise.nil).1
theorem ordI_mem (cs : List Int) (x : Int) : x ∈ ordI cs ↔ x ∈ cs := by rw [ordI, (foldl_put cs [] List.Pairwise.nil).2]; simp
def spanIn (lo hi c : Int) : Bool := decide (lo < c) && decide (c ≤ hi)
/-- The least value, and all cuts above it, up to the greatest one. -/
def stepsI (lo hi : Int) (cs : List Int) : List Int := cs.foldl (fun a c => if spanIn lo hi c = true then putI a c else a) [lo]
theorem steps_fold (lo hi : Int) (cs : List Int) : ∀ (a : List Int), a.Pairwise (· < ·) → (cs.foldl (fun a c => if spanIn lo hi c = true then putI a c else a) a).Pairwise (· < ·) ∧ ∀ x, x ∈ cs.foldl (fun a c => if spanIn lo hi c = true then putI a c else a) a ↔ x ∈ a ∨ (x ∈ cs ∧ spanIn lo hi x = true) := by
  induction cs with
  | nil => exact fun a ha => ⟨ha, fun x => by simp⟩
  | cons c cs ih =>
    intro a ha
    rw [List.foldl_cons]
    by_cases hc : spanIn lo hi c = true
    · rw [if_pos hc]
      obtain ⟨h1, h2⟩ := ih (putI a c) (putI_incr a c ha)
      refine ⟨h1, fun x => ?_⟩
      rw [h2, putI_mem, List.mem_cons]
      constructor
      · rintro ((h | h) | h)
        · subst h; exact .inr ⟨.inl rfl, hc⟩
        · exact .inl h
        · exact .inr ⟨.inr h.1, h.2⟩
      · rintro (h | ⟨h | h, h'⟩)
        · exact .inl (.inr h)
        · exact .inl (.inl h)
        · exact .inr ⟨h, h'⟩
    · rw [if_neg hc]
      obtain ⟨h1, h2⟩ := ih a ha
      refine ⟨h1, fun x => ?_⟩
      rw [h2, List.mem_cons]
      constructor
      · rintro (h | h)
        · exact .inl h
        · exact .inr ⟨.inr h.1, h.2⟩
      · rintro (h | ⟨h | h, h'⟩)
        · exact .inl h
        · subst h; exact absurd h' hc
        · exact .inr ⟨h, h'⟩
theorem stepsI_incr (lo hi : Int) (cs : List Int) : (stepsI lo hi cs).Pairwise (· < ·) := (steps_fold lo hi cs [lo] (List.pairwise_singleton _ _)).1
theorem stepsI_mem (lo hi : Int) (cs : List Int) (x : Int) : x ∈ stepsI lo hi cs ↔ x = lo ∨ (x ∈ cs ∧ spanIn lo hi x = true) := by rw [stepsI, (steps_fold lo hi cs [lo] (List.pairwise_singleton _ _)).2]; simp
/-- The same by all cuts in order. -/
theorem typ_eq (lo hi : Int) (cs : List Int) : lo :: (ordI cs).filter (spanIn lo hi) = stepsI lo hi cs := by
  refine incr_ext _ _ ?_ (stepsI_incr lo hi cs) fun x => ?_
  · refine List.pairwise_cons.2 ⟨fun z hz => ?_, (ordI_incr cs).filter _⟩
    have := (List.mem_filter.1 hz).2
    simp [spanIn] at this
    exact this.1
  · rw [List.mem_cons, List.mem_filter, ordI_mem, stepsI_mem]

/-! The cuts of a trait. -/
def nodCuts (k : Int) (l : List Nod) : List Int := (l.filter fun n => decide (n.tr = k)).map Nod.cut
def cutsT (m : Mdl) (k : Nat) : List Int := (m.cards.flatMap fun c => (c.scales.getD k default).cuts) ++ (m.trees.flatMap fun t => nodCuts k t.nodes)
structure Spn where
  lo : Int
  hi : Int
instance : Inhabited Spn := ⟨⟨0, 0⟩⟩
def spnB (s : Spn) : Bool := inN s.lo 0 1000000 && inN s.hi s.lo 1000000
def spnsB (traits : Int) (x : List Spn) : Bool := decide ((x.length : Int) = traits) && x.all spnB
def betE (m : Mdl) (x : List Spn) : Int := if mdlB m = true then (if spnsB m.traits x = true then 0 else 61) else 60
def stepsL (m : Mdl) (x : List Spn) : List (List Int) := (List.range x.length).map fun k => stepsI (x.getD k default).lo (x.getD k default).hi (cutsT m k)

/-! All vectors, in order. -/
def vecs : List (List Int) → List (List Int)
  | [] => [[]]
  | l :: r => l.flatMap fun v => (vecs r).map (v :: ·)
def loL (l : List Int) : Int := -(l.foldl (fun a n => max a (-n)) (-9223372036854775808))
def hiL (l : List Int) : Int := l.foldl max (-9223372036854775808)
theorem loL_snoc (l : List Int) (n : Int) : loL (l ++ [n]) = min (loL l) n := by
  unfold loL; rw [List.foldl_append]; simp only [List.foldl_cons, List.foldl_nil]; omega
theorem hiL_snoc (l : List Int) (n : Int) : hiL (l ++ [n]) = max (hiL l) n := by
  unfold hiL; rw [List.foldl_append]; simp only [List.foldl_cons, List.foldl_nil]
def betV (m : Mdl) (x : List Spn) : Spn := if betE m x = 0 then ⟨loL ((vecs (stepsL m x)).map (scoreM m)), hiL ((vecs (stepsL m x)).map (scoreM m))⟩ else ⟨0, 0⟩

/-! The digits of a vector. -/
def nums : List Nat → Nat
  | [] => 1
  | n :: r => n * nums r
def digs : List Nat → Nat → List Nat
  | [], _ => []
  | _ :: r, i => i / nums r :: digs r (i % nums r)
theorem digs_len : ∀ (l : List Nat) (i : Nat), (digs l i).length = l.length
  | [], _ => rfl
  | _ :: r, i => by rw [digs, List.length_cons, digs_len r, List.length_cons]
theorem nums_pos : ∀ {l : List Nat}, (∀ n ∈ l, 0 < n) → 0 < nums l
  | [], _ => by simp [nums]
  | n :: r, h => by
    rw [nums]
    exact Nat.mul_pos (h n (List.mem_cons_self ..)) (nums_pos fun x hx => h x (List.mem_cons_of_mem _ hx))
theorem digs_lt : ∀ {l : List Nat}, (∀ n ∈ l, 0 < n) → ∀ {i : Nat}, i < nums l → ∀ (k : Nat) (hk : k < l.length) (hk' : k < (digs l i).length), (digs l i)[k] < l[k]
  | [], _, _, _, k, hk, _ => by simp at hk
  | n :: r, h, i, hi, k, hk, hk' => by
    have hp := nums_pos (l := r) fun x hx => h x (List.mem_cons_of_mem _ hx)
    cases k with
    | zero => simp only [digs, List.getElem_cons_zero]; rw [nums] at hi; exact (Nat.div_lt_iff_lt_mul hp).2 hi
    | succ k => simp only [digs, List.getElem_cons_succ]; exact digs_lt (fun x hx => h x (List.mem_cons_of_mem _ hx)) (Nat.mod_lt _ hp) k _ _
def lens (L : List (List Int)) : List Nat := L.map List.length
/-- The vector of some digits. -/
def vecD (L : List (List Int)) (d : List Nat) : List Int := (List.range L.length).map fun k => (L.getD k []).getD (d.getD k 0) 0
theorem vecD_cons (l : List Int) (L : List (List Int)) (a : Nat) (d : List Nat) : vecD (l :: L) (a :: d) = l.getD a 0 :: vecD L d := by
  unfold vecD
  rw [List.length_cons, List.range_succ_eq_map, List.map_cons, List.map_map]
  congr 1
theorem vecs_len : ∀ L : List (List Int), (vecs L).length = nums (lens L)
  | [] => rfl
  | l :: r => by
    have h : ∀ (q : List Int), (q.flatMap fun v => (vecs r).map (v :: ·)).length = q.length * (vecs r).length := by
      intro q
      induction q with
      | nil => simp
      | cons x q ih => rw [List.flatMap_cons, List.length_append, ih, List.length_map, List.length_cons, Nat.succ_mul, Nat.add_comm]
    show (l.flatMap fun v => (vecs r).map (v :: ·)).length = nums (l.length :: lens r)
    rw [h, vecs_len r]; rfl
theorem vecs_at : ∀ (L : List (List Int)), (∀ n ∈ lens L, 0 < n) → ∀ i (_hi : i < nums (lens L)), (vecs L)[i]? = some (vecD L (digs (lens L) i))
  | [], _, i, hi => by
    simp only [lens, List.map_nil, nums] at hi
    obtain rfl : i = 0 := by omega
    rfl
  | l :: r, h, i, hi => by
    have hr : ∀ n ∈ lens r, 0 < n := fun n hn => h n (List.mem_cons_of_mem _ hn)
    have hp := nums_pos hr
    have key : ∀ (q : List Int) (i : Nat), i < q.length * nums (lens r) → (q.flatMap fun v => (vecs r).map (v :: ·))[i]? = some (q.getD (i / nums (lens r)) 0 :: vecD r (digs (lens r) (i % nums (lens r)))) := by
      intro q
      induction q with
      | nil => intro i hi; simp at hi
      | cons x q ih =>
        intro i hi
        rw [List.flatMap_cons]
        by_cases hlt : i < nums (lens r)
        · rw [List.getElem?_append_left (by rw [List.length_map, vecs_len]; exact hlt), List.getElem?_map, vecs_at r hr i hlt, Nat.div_eq_of_lt hlt, Nat.mod_eq_of_lt hlt]
          rfl
        · have hge : nums (lens r) ≤ i := by omega
          rw [List.getElem?_append_right (by rw [List.length_map, vecs_len]; exact hge), List.length_map, vecs_len, ih (i - nums (lens r)) (by rw [List.length_cons, Nat.succ_mul] at hi; omega)]
          have e1 : i / nums (lens r) = (i - nums (lens r)) / nums (lens r) + 1 := by
            rw [Nat.div_eq_sub_div hp hge]
          have e2 : i % nums (lens r) = (i - nums (lens r)) % nums (lens r) := by rw [Nat.mod_eq_sub_mod hge]
          rw [e1, e2]
          rfl
    show (l.flatMap fun v => (vecs r).map (v :: ·))[i]? = some (vecD (l :: r) (digs (l.length :: lens r) i))
    rw [digs, vecD_cons, key l i (by exact hi)]
/-- The next digits: from the last one. -/
def nextD : List Nat → List Nat → Bool × List Nat
  | n :: r, a :: d => match nextD r d with
    | (true, d') => (true, a :: d')
    | (false, d') => if a + 1 < n then (true, (a + 1) :: d') else (false, 0 :: d')
  | _, _ => (false, [])
theorem nextD_last : ∀ (l : List Nat), (∀ n ∈ l, 0 < n) → nextD l (digs l (nums l - 1)) = (false, digs l 0)
  | [], _ => rfl
  | n :: r, h => by
    have hr : ∀ x ∈ r, 0 < x := fun x hx => h x (List.mem_cons_of_mem _ hx)
    have hp := nums_pos hr
    have hn := h n (List.mem_cons_self ..)
    have e1 : (n * nums r - 1) / nums r = n - 1 := by
      obtain ⟨k, rfl⟩ : ∃ k, n = k + 1 := ⟨n - 1, by omega⟩
      rw [Nat.succ_mul, Nat.add_sub_assoc (by omega), Nat.mul_comm, Nat.mul_add_div hp, Nat.div_eq_of_lt (by omega)]
      omega
    have e2 : (n * nums r - 1) % nums r = nums r - 1 := by
      obtain ⟨k, rfl⟩ : ∃ k, n = k + 1 := ⟨n - 1, by omega⟩
      rw [Nat.succ_mul, Nat.add_sub_assoc (by omega), Nat.mul_comm, Nat.mul_add_mod, Nat.mod_eq_of_lt (by omega)]
    show nextD (n :: r) ((n * nums r - 1) / nums r :: digs r ((n * nums r - 1) % nums r)) = _
    rw [e1, e2, nextD, nextD_last r hr]
    simp only
    rw [if_neg (by omega), digs, Nat.zero_div, Nat.zero_mod]
theorem nextD_step : ∀ (l : List Nat), (∀ n ∈ l, 0 < n) → ∀ i, i + 1 < nums l → nextD l (digs l i) = (true, digs l (i + 1))
  | [], _, i, hi => by simp [nums] at hi
  | n :: r, h, i, hi => by
    have hr : ∀ x ∈ r, 0 < x := fun x hx => h x (List.mem_cons_of_mem _ hx)
    have hp := nums_pos hr
    show nextD (n :: r) (i / nums r :: digs r (i % nums r)) = _
    have hdm := Nat.div_add_mod i (nums r)
    have hml := Nat.mod_lt i hp
    by_cases hlt : i % nums r + 1 < nums r
    · rw [nextD, nextD_step r hr _ hlt]
      have e : i + 1 = nums r * (i / nums r) + (i % nums r + 1) := by omega
      have e1 : (i + 1) / nums r = i / nums r := by rw [e, Nat.mul_add_div hp, Nat.div_eq_of_lt hlt, Nat.add_zero]
      have e2 : (i + 1) % nums r = i % nums r + 1 := by rw [e, Nat.mul_add_mod, Nat.mod_eq_of_lt hlt]
      simp only [digs, e1, e2]
    · have hw : i % nums r = nums r - 1 := by omega
      have e : i + 1 = nums r * (i / nums r + 1) := by rw [Nat.mul_succ]; omega
      have e1 : (i + 1) / nums r = i / nums r + 1 := by rw [e, Nat.mul_div_cancel_left _ hp]
      have e2 : (i + 1) % nums r = 0 := by rw [e, Nat.mul_mod_right]
      have hn : i / nums r + 1 < n := by
        rw [← e1]
        exact (Nat.div_lt_iff_lt_mul hp).2 (by rw [nums] at hi; exact hi)
      rw [nextD, hw, nextD_last r hr]
      simp only [digs, e1, e2, hn, if_true]
end Go.Proofs.YtbkekdbabkncfaaGreat

namespace Go.Proofs.YtbkekdbabkncfaaGreat
open Go.RowKit Go.Maps

structure Sub where
  id : Int
  vals : List Int
structure Whe where
  col : Int
  lo : Int
  hi : Int
structure Que where
  wheres : List Whe
  col : Int
  clip : Int
  step : Int
instance : Inhabited Sub := ⟨⟨0, []⟩⟩
instance : Inhabited Whe := ⟨⟨0, 0, 0⟩⟩
/-- A subject, and where its values lie. -/
structure SubD where
  v : Sub
  V : Option Addr
  c : Nat
instance : Inhabited SubD := ⟨⟨default, none, 0⟩⟩
structure QueD where
  v : Que
  W : Option Addr
  c : Nat
def subC (x : SubD) : List Value := [.int .i64 x.v.id, .slice x.V x.v.vals.length x.c]
def wheC (x : Whe) : List Value := [.int .i64 x.col, .int .i64 x.lo, .int .i64 x.hi]
def queC (x : QueD) : List Value := [.slice x.W x.v.wheres.length x.c, .int .i64 x.v.col, .int .i64 x.v.clip, .int .i64 x.v.step]
theorem subC_len (x : SubD) : (subC x).length = 2 := rfl
theorem wheC_len (x : Whe) : (wheC x).length = 3 := rfl
theorem queC_len (x : QueD) : (queC x).length = 4 := rfl
def WhesAt (w : World) (B : Nat) (A : Option Addr) (l : List Whe) : Prop := Flat 3 wheC w B A l
structure SubsAt (w : World) (B : Nat) (A : Option Addr) (l : List SubD) : Prop where
  row : Flat 2 subC w B A l
  each : ∀ x ∈ l, Flat 1 intC w B x.V x.v.vals
structure QuesAt (w : World) (B : Nat) (A : Option Addr) (l : List QueD) : Prop where
  row : Flat 4 queC w B A l
  each : ∀ x ∈ l, WhesAt w B x.W x.v.wheres
section
variable {w w' : World} {A : Option Addr} {B : Nat}
theorem SubsAt.below {l : List SubD} (h : SubsAt w B A l) (hb : Below B w w') : SubsAt w' B A l := ⟨h.row.below hb, fun x hx => (h.each x hx).below hb⟩
theorem SubsAt.later {l : List SubD} (h : SubsAt w w.heap.size A l) (hb : Below w.heap.size w w') : SubsAt w' w'.heap.size A l := ⟨h.row.later hb, fun x hx => (h.each x hx).later hb⟩
theorem QuesAt.below {l : List QueD} (h : QuesAt w B A l) (hb : Below B w w') : QuesAt w' B A l := ⟨h.row.below hb, fun x hx => (h.each x hx).below hb⟩
theorem QuesAt.later {l : List QueD} (h : QuesAt w w.heap.size A l) (hb : Below w.heap.size w w') : QuesAt w' w'.heap.size A l := ⟨h.row.later hb, fun x hx => (h.each x hx).later hb⟩
end

/-! What is valid. -/
def subB (columns : Int) (s : Sub) : Bool := inN s.id 0 999999 && decide ((s.vals.length : Int) = columns) && s.vals.all fun v => inN v 0 1000000
def tabB (columns : Int) (l : List Sub) : Bool := inN columns 1 5 && decide (l.length ≤ 16) && l.all (subB columns) && decide (l.map Sub.id).Nodup
def tabE (columns : Int) (l : List Sub) : Int := if tabB columns l = true then 0 else 100
def wheB (columns : Int) (x : Whe) : Bool := inN x.col 0 (columns - 1) && inN x.lo 0 1000000 && inN x.hi 0 1000000
def queB (columns : Int) (q : Que) : Bool := decide (q.wheres.length ≤ 4) && inN q.step 1 1000000 && q.wheres.all (wheB columns) && (if q.col = -1 then decide (q.clip = 1) else inN q.col 0 (columns - 1) && inN q.clip 1 1000000)
/-- The error of a table and a question. -/
def askE (columns : Int) (l : List Sub) (q : Que) : Int := if tabB columns l = true then (if queB columns q = true then 0 else 101) else 100

/-! Who is asked for, and the sum. -/
def askB (s : Sub) (q : Que) : Bool := q.wheres.all fun x => inN (s.vals.getD x.col.toNat 0) x.lo x.hi
def cntQ (s : Sub) (q : Que) : Int := if q.col = -1 then 1 else min (s.vals.getD q.col.toNat 0) q.clip
def metL (l : List Sub) (q : Que) : List Int := ordI ((l.filter fun s => askB s q).map Sub.id)
def sumN (l : List Sub) (q : Que) : Int := sumL ((l.filter fun s => askB s q).map fun s => cntQ s q)
def nearN (n step : Int) : Int := (n + step / 2) / step * step
def leastN (n step : Int) : Int := (n + step - 1) / step * step
/-- The two ways to round: the program's, and the reference's. -/
theorem near_eq (n step : Int) : (2 * n + step) / (2 * step) * step = nearN n step := by
  unfold nearN
  rw [← Int.ediv_ediv_of_nonneg (show (0 : Int) ≤ 2 by omega), show (2 * n + step) / 2 = n + step / 2 by omega]
theorem ask_parts {columns : Int} {l : List Sub} (h : tabB columns l = true) : (1 ≤ columns ∧ columns ≤ 5) ∧ l.length ≤ 16 ∧ (∀ s ∈ l, subB columns s = true) ∧ (l.map Sub.id).Nodup := by
  unfold tabB at h
  simp only [Bool.and_eq_true, decide_eq_true_eq, List.all_eq_true] at h
  exact ⟨inN_iff.1 h.1.1.1, h.1.1.2, h.1.2, h.2⟩
theorem sub_parts {columns : Int} {s : Sub} (h : subB columns s = true) : (0 ≤ s.id ∧ s.id ≤ 999999) ∧ (s.vals.length : Int) = columns ∧ ∀ v ∈ s.vals, 0 ≤ v ∧ v ≤ 1000000 := by
  unfold subB at h
  simp only [Bool.and_eq_true, decide_eq_true_eq, List.all_eq_true] at h
  exact ⟨inN_iff.1 h.1.1, h.1.2, fun v hv => inN_iff.1 (h.2 v hv)⟩
end Go.Proofs.YtbkekdbabkncfaaGreat

namespace Go.Proofs.YtbkekdbabkncfaaGreat
open Go.RowKit Go.Maps

def idS (l : List SubD) (a : Nat) : Int := (l.getD a default).v.id
theorem idS_get (l : List SubD) (a : Nat) (h : a < l.length) : idS l a = l[a].v.id := by
  unfold idS; rw [List.getD_eq_getElem?_getD, List.getElem?_eq_getElem h]; rfl
theorem subC_one (x : SubD) : ∀ u ∈ subC x, u.oneCell' = true := by
  intro u hu
  simp only [subC, List.mem_cons, List.not_mem_nil, or_false] at hu
  rcases hu with rfl | rfl <;> rfl
theorem subCs_len (l : List SubD) : (l.flatMap subC).length = l.length * 2 := flat_len subC_len l
theorem subCs_one (l : List SubD) : ∀ u ∈ l.flatMap subC, u.oneCell' = true := flat_ones subC_one l
theorem subCs_get (l : List SubD) (k : Nat) (h : k < l.length) (i : Nat) (hi : i < 2) : (l.flatMap subC)[k * 2 + i]? = (subC l[k])[i]? := flat_get subC_len l k h i hi
theorem subCs_set (l : List SubD) (k : Nat) (hk : k < l.length) (x : SubD) :
    (l.set k x).flatMap subC = ((l.flatMap subC).set (k * 2) (.int .i64 x.v.id)).set (k * 2 + 1) (.slice x.V x.v.vals.length x.c) := by
  apply List.ext_getElem?
  intro q
  have hL := subCs_len l
  by_cases hq : q < l.length * 2
  · have hq2 : q = q / 2 * 2 + q % 2 := by omega
    have hm : q % 2 < 2 := Nat.mod_lt _ (by omega)
    have hd : q / 2 < l.length := by omega
    have h1 := subCs_get (l.set k x) (q / 2) (by simpa using hd) (q % 2) hm
    rw [← hq2, List.getElem_set] at h1
    rw [h1]
    have h2 := subCs_get l (q / 2) hd (q % 2) hm
    rw [← hq2] at h2
    simp only [List.getElem?_set, List.length_set, hL]
    by_cases hk2 : k = q / 2
    · rw [if_pos hk2]
      subst hk2
      have h8 : q % 2 = 0 ∨ q % 2 = 1 := by omega
      rcases h8 with h8 | h8
      · rw [h8, if_neg (by omega), if_pos (by omega), if_pos (by omega)]; rfl
      · rw [h8, if_pos (by omega), if_pos (by omega)]; rfl
    · rw [if_neg hk2, ← h2, if_neg (by omega), if_neg (by omega)]
  · rw [List.getElem?_eq_none (by rw [subCs_len, List.length_set]; omega), List.getElem?_eq_none (by simp only [List.length_set]; omega)]

/-- All pairs up to i are in order, but for those whose later one is k. -/
def InsInv (f : Nat → Int) (i k : Nat) : Prop := ∀ a b, a < b → b ≤ i → b ≠ k → f a ≤ f b
def swp (f : Nat → Int) (k : Nat) (a : Nat) : Int := if a = k then f (k - 1) else if a = k - 1 then f k else f a
theorem ins_start {f : Nat → Int} {i : Nat} (h : ∀ a b, a < b → b < i → f a ≤ f b) : InsInv f i i := fun a b h1 h2 h3 => h a b h1 (by omega)
theorem ins_step {f : Nat → Int} {i k : Nat} (hk : 0 < k) (hlt : f k < f (k - 1)) (h : InsInv f i k) : InsInv (swp f k) i (k - 1) := fun a b h1 h2 h3 => by
  unfold swp
  by_cases hb : b = k
  · subst hb
    rw [if_pos rfl, if_neg (by omega)]
    by_cases ha : a = b - 1
    · rw [if_pos ha]; omega
    · rw [if_neg ha]; exact h a (b - 1) (by omega) (by omega) (by omega)
  · rw [if_neg hb, if_neg h3]
    by_cases ha : a = k
    · subst ha; rw [if_pos rfl]; exact h (a - 1) b (by omega) h2 hb
    · rw [if_neg ha]
      by_cases ha2 : a = k - 1
      · rw [if_pos ha2]; exact h k b (by omega) h2 hb
      · rw [if_neg ha2]; exact h a b h1 h2 hb
theorem ins_end {f : Nat → Int} {i k : Nat} (h : InsInv f i k) (he : k = 0 ∨ f (k - 1) ≤ f k) : ∀ a b, a < b → b < i + 1 → f a ≤ f b := fun a b h1 h2 => by
  by_cases hb : b = k
  · subst hb
    rcases he with he | he
    · omega
    · by_cases ha : a = b - 1
      · rw [ha]; exact he
      · exact Int.le_trans (h a (b - 1) (by omega) (by omega) (by omega)) he
  · exact h a b h1 (by omega) hb

section
variable {α : Type}
/-- Two neighbours exchanged. -/
def swapL (l : List α) (k : Nat) (x y : α) : List α := (l.set k x).set (k - 1) y
theorem swapL_len (l : List α) (k : Nat) (x y : α) : (swapL l k x y).length = l.length := by simp [swapL]
theorem swapL_get (l : List α) (k : Nat) (hk : 0 < k) (hl : k < l.length) (a : Nat) (ha : a < l.length) : (swapL l k (l[k - 1]'(by omega)) l[k])[a]'(by rw [swapL_len]; exact ha) = if a = k then l[k - 1]'(by omega) else if a = k - 1 then l[k] else l[a] := by
  unfold swapL
  rw [List.getElem_set]
  by_cases h1 : k - 1 = a
  · rw [if_pos h1, if_neg (by omega), if_pos h1.symm]
  · rw [if_neg h1, List.getElem_set]
    by_cases h2 : k = a
    · rw [if_pos h2, if_pos h2.symm]
    · rw [if_neg h2, if_neg (fun e => h2 e.symm), if_neg (fun e => h1 e.symm)]
theorem swapL_perm (l : List α) (k : Nat) (hk : 0 < k) (hl : k < l.length) : (swapL l k (l[k - 1]'(by omega)) l[k]).Perm l := by
  obtain ⟨m, rfl⟩ : ∃ m, k = m + 1 := ⟨k - 1, by omega⟩
  have e : swapL l (m + 1) (l[m]'(by omega)) l[m + 1] = l.take m ++ l[m + 1] :: (l[m]'(by omega)) :: l.drop (m + 2) := by
    apply List.ext_getElem
    · rw [swapL_len]; simp; omega
    · intro a h1 h2
      have h3 : a < l.length := by rwa [swapL_len] at h1
      have hg := swapL_get l (m + 1) (by omega) hl a h3
      simp only [Nat.add_sub_cancel] at hg
      rw [hg]
      by_cases hm : a < m
      · rw [if_neg (by omega), if_neg (by omega), List.getElem_append_left (by simp; omega), List.getElem_take]
      · rw [List.getElem_append_right (by simp; omega)]
        simp only [List.length_take, Nat.min_eq_left (show m ≤ l.length by omega)]
        by_cases h4 : a = m
        · subst h4; simp
        · by_cases h5 : a = m + 1
          · subst h5; simp
          · rw [if_neg h5, if_neg h4]
            obtain ⟨q, rfl⟩ : ∃ q, a = m + 2 + q := ⟨a - (m + 2), by omega⟩
            simp only [show m + 2 + q - m = q + 1 + 1 by omega, List.getElem_cons_succ, List.getElem_drop]
  have e2 : l = l.take m ++ (l[m]'(by omega)) :: l[m + 1] :: l.drop (m + 2) := by
    rw [← List.drop_eq_getElem_cons, ← List.drop_eq_getElem_cons, List.take_append_drop]
  show (swapL l (m + 1) (l[m]'(by omega)) l[m + 1]).Perm l
  rw [e]
  conv => rhs; rw [e2]
  exact List.Perm.append_left _ (List.Perm.swap _ _ _)
end

theorem InsInv.congr {f f' : Nat → Int} {i k : Nat} (h : InsInv f i k) (e : ∀ a, a ≤ i → f a = f' a) : InsInv f' i k := fun a b h1 h2 h3 => by
  rw [← e a (by omega), ← e b h2]; exact h a b h1 h2 h3
end Go.Proofs.YtbkekdbabkncfaaGreat

namespace Go.Proofs.YtbkekdbabkncfaaGreat
open Go.RowKit Go.Maps

theorem intKeys_spec {H : Type} {P : Program} {k : TypeId} {R : Value → Option (DataW H × List MemPlace)} {w : World} {b n : Nat} {D : DataW H} (hown : w.ownsMap P k R b n D) (K : Keyed P k) (hk : P.underlying k = some (.int .i64)) :
    (Go.intKeys D).Nodup ∧ ∀ x, x ∈ Go.intKeys D ↔ has D (.int .i64 x) = true := by
  obtain ⟨es, hD, hpw, _⟩ := hown.entries K
  obtain ⟨es', hD', hko⟩ := hown.keysOf
  obtain rfl : es = es' := by rw [hD] at hD'; simpa using hD'
  subst hD
  have hx : ∀ p ∈ es, ∃ x, p.1 = .int .i64 x := fun p hp => by
    obtain ⟨v, hv⟩ := hko p hp
    obtain ⟨x, _, hx, _⟩ := Go.Maps.keyOf_i64 hk hv
    exact ⟨x, hx⟩
  refine ⟨?_, fun x => ?_⟩
  · refine List.pairwise_map.2 (hpw.imp_of_mem fun {p q} hp' hq' hne e => hne ?_)
    obtain ⟨a, ha⟩ := hx p hp'
    obtain ⟨c, hc⟩ := hx q hq'
    rw [ha, hc] at e ⊢
    exact congrArg _ e
  · rw [has_eq, List.any_eq_true]
    show x ∈ es.map (fun p => Go.intOf p.1) ↔ _
    rw [List.mem_map]
    constructor
    · rintro ⟨p, hp', rfl⟩
      obtain ⟨a, ha⟩ := hx p hp'
      exact ⟨p, hp', by rw [ha]; simp [Lit.sameKey, Go.intOf]⟩
    · rintro ⟨p, hp', hs⟩
      obtain ⟨a, ha⟩ := hx p hp'
      rw [ha] at hs
      exact ⟨p, hp', by rw [ha]; simpa [Lit.sameKey, Go.intOf] using hs⟩

theorem size_keys {H : Type} {w : World} {P : Program} {k : TypeId} {R : Value → Option (DataW H × List MemPlace)} {b n : Nat} {D : DataW H} (hown : w.ownsMap P k R b n D) (K : Keyed P k) : Maps.size D = (Go.intKeys D).length := by
  obtain ⟨es, hD, _⟩ := hown.entries K
  rw [hD]
  show es.length = (es.map _).length
  simp
theorem size_of {w : World} {b n : Nat} {D : DataW Value} {G : Lit → Option Value} (hown : w.ownsMap Tryz.prog 3 rawElem b n D) (hat : ∀ kl z, D.atKey kl z = gotAt (G kl) z) {ks : List Int} (hn : ks.Nodup) (hk : ∀ p, p ∈ ks ↔ (G (.int .i64 p)).isSome = true) : Maps.size D = ks.length := by
  rw [size_keys hown (int_keyed Tryz.underlying3)]
  have hks := intKeys_spec hown (int_keyed Tryz.underlying3) Tryz.underlying3
  exact ((List.perm_ext_iff_of_nodup hks.1 hn).2 fun p => by rw [hks.2, has_some hat, hk]).length_eq

/-! A list without what it has twice. -/
def ded : List Int → List Int
  | [] => []
  | x :: l => if x ∈ l then ded l else x :: ded l
theorem ded_mem : ∀ (l : List Int) (x : Int), x ∈ ded l ↔ x ∈ l
  | [], x => by simp [ded]
  | y :: l, x => by
    unfold ded
    split
    · rename_i h
      rw [ded_mem l x, List.mem_cons]
      exact ⟨.inr, fun e => e.elim (fun e => e ▸ h) id⟩
    · rw [List.mem_cons, ded_mem l x, List.mem_cons]
theorem ded_nodup : ∀ l : List Int, (ded l).Nodup
  | [] => by simp [ded]
  | y :: l => by
    unfold ded
    split
    · exact ded_nodup l
    · rename_i h
      rw [List.nodup_cons, ded_mem]
      exact ⟨h, ded_nodup l⟩
theorem ded_le : ∀ l : List Int, (ded l).length ≤ l.length
  | [] => by simp [ded]
  | y :: l => by
    have := ded_le l
    unfold ded
    split
    · simp only [List.length_cons]; omega
    · simp only [List.length_cons]; omega
theorem ded_len : ∀ l : List Int, (ded l).length = l.length ↔ l.Nodup
  | [] => by simp [ded]
  | y :: l => by
    have h1 := ded_le l
    have h2 := ded_len l
    unfold ded
    split
    · rename_i h
      simp only [List.length_cons, List.nodup_cons]
      exact ⟨fun e => by omega, fun e => absurd h e.1⟩
    · rename_i h
      simp only [List.length_cons, List.nodup_cons]
      exact ⟨fun e => ⟨h, h2.1 (by omega)⟩, fun e => by have := h2.2 e.2; omega⟩

/-! What is in the map. -/
abbrev valsV (x : SubD) : Value := .slice x.V x.v.vals.length x.c
noncomputable def valF (G : Lit → Option Value) : List SubD → Lit → Option Value
  | [] => G
  | x :: l => valF (putFn G (.int .i64 x.v.id) (valsV x)) l
noncomputable def valG (l : List SubD) : Lit → Option Value := valF (fun _ => none) l
theorem valF_snoc : ∀ (l : List SubD) (G : Lit → Option Value) (x : SubD), valF G (l ++ [x]) = putFn (valF G l) (.int .i64 x.v.id) (valsV x)
  | [], _, _ => rfl
  | _ :: l, _, x => valF_snoc l _ x
theorem valG_snoc (l : List SubD) (x : SubD) : valG (l ++ [x]) = putFn (valG l) (.int .i64 x.v.id) (valsV x) := valF_snoc l _ x
theorem put_at (G : Lit → Option Value) (p q : Int) (v : Value) : putFn G (.int .i64 p) v (.int .i64 q) = if q = p then some v else G (.int .i64 q) := by
  unfold putFn
  by_cases h : q = p
  · subst h; rw [if_pos rfl, if_pos rfl]
  · rw [if_neg h, if_neg (fun e => h (by injection e))]
theorem valF_out : ∀ (l : List SubD) (G : Lit → Option Value) (p : Int), (∀ x ∈ l, x.v.id ≠ p) → valF G l (.int .i64 p) = G (.int .i64 p)
  | [], G, p, _ => rfl
  | y :: l, G, p, h => by
    rw [valF, valF_out l _ p (fun x hx => h x (List.mem_cons_of_mem _ hx)), put_at, if_neg (fun e => h y (List.mem_cons_self ..) e.symm)]
theorem valF_some : ∀ (l : List SubD) (G : Lit → Option Value) (p : Int), (valF G l (.int .i64 p)).isSome = true ↔ (G (.int .i64 p)).isSome = true ∨ p ∈ l.map fun x => x.v.id
  | [], G, p => by simp [valF]
  | y :: l, G, p => by
    rw [valF, valF_some l _ p, put_at, List.map_cons, List.mem_cons]
    by_cases h : p = y.v.id
    · rw [if_pos h]; simp [h]
    · rw [if_neg h]; simp [h]
theorem valF_get : ∀ (l : List SubD) (G : Lit → Option Value), (l.map fun x => x.v.id).Nodup → ∀ x ∈ l, valF G l (.int .i64 x.v.id) = some (valsV x)
  | [], _, _, x, h => by simp at h
  | y :: l, G, hn, x, hx => by
    rw [List.map_cons, List.nodup_cons] at hn
    rw [valF]
    rcases List.mem_cons.1 hx with rfl | hx
    · rw [valF_out l _ _ (fun z hz e => hn.1 (List.mem_map.2 ⟨z, hz, e⟩)), put_at, if_pos rfl]
    · exact valF_get l _ hn.2 x hx
theorem valG_some (l : List SubD) (p : Int) : (valG l (.int .i64 p)).isSome = true ↔ p ∈ l.map fun x => x.v.id := by rw [valG, valF_some]; simp
theorem valG_get {l : List SubD} (hn : (l.map fun x => x.v.id).Nodup) {x : SubD} (hx : x ∈ l) : valG l (.int .i64 x.v.id) = some (valsV x) := valF_get l _ hn x hx
theorem val_size {w : World} {b n : Nat} {D : DataW Value} {l : List SubD} (hown : w.ownsMap Tryz.prog 3 rawElem b n D) (hat : ∀ kl z, D.atKey kl z = gotAt (valG l kl) z) : Maps.size D = (ded (l.map fun x => x.v.id)).length :=
  size_of hown hat (ded_nodup _) fun p => by rw [ded_mem, valG_some]
/-- Values by numbers, in new memory. -/
def ValsPost (w : World) (l : List SubD) (e : Ending) (w' : World) : Prop := ∃ b, e = .returned (.map (some b)) ∧ w.heap.size ≤ b ∧ MapFn w' Tryz.prog 3 b l.length (valG l) ∧ Below w.heap.size w w'
end Go.Proofs.YtbkekdbabkncfaaGreat

namespace Go.Proofs.YtbkekdbabkncfaaGreat
open Go.RowKit Go.Maps

/-! Bits of a list, the first one lowest. -/
def bitsN : List Bool → Nat
  | [] => 0
  | b :: r => (if b = true then 1 else 0) + 2 * bitsN r
theorem bitsN_lt : ∀ l : List Bool, bitsN l < 2 ^ l.length
  | [] => by simp [bitsN]
  | b :: r => by
    have := bitsN_lt r
    rw [List.length_cons, Nat.pow_succ, bitsN]
    split <;> omega
theorem bitsN_snoc : ∀ (l : List Bool) (b : Bool), bitsN (l ++ [b]) = bitsN l + if b = true then 2 ^ l.length else 0
  | [], b => by cases b <;> simp [bitsN]
  | c :: r, b => by
    rw [List.cons_append, bitsN, bitsN_snoc r b, bitsN, List.length_cons, Nat.pow_succ]
    cases b <;> simp <;> omega
theorem bitsN_bit : ∀ (l : List Bool) (i : Nat), i < l.length → bitsN l / 2 ^ i % 2 = if l.getD i false = true then 1 else 0
  | [], i, h => by simp at h
  | b :: r, 0, _ => by
    rw [bitsN]
    cases b <;> simp <;> omega
  | b :: r, i + 1, h => by
    have h2 := bitsN_bit r i (by simpa using h)
    have e : bitsN (b :: r) / 2 ^ (i + 1) = bitsN r / 2 ^ i := by
      rw [bitsN, Nat.pow_succ, Nat.mul_comm (2 ^ i) 2, ← Nat.div_div_eq_div_mul]
      have h3 : ((if b = true then 1 else 0) + 2 * bitsN r) / 2 = bitsN r := by split <;> omega
      rw [h3]
    rw [e, h2]
    simp
theorem pow16 (n : Nat) (h : n ≤ 16) : 1 ≤ 2 ^ n ∧ 2 ^ n ≤ 65536 := by
  have h1 : 2 ^ n ≤ 2 ^ 16 := Nat.pow_le_pow_right (by decide) h
  have h2 : 0 < 2 ^ n := Nat.pow_pos (by decide)
  exact ⟨h2, h1⟩
theorem or_bit (a n : Nat) (h : n ≤ 16) (ha : a < 2 ^ n) : bits BinOp.or IntKind.i64 (a : Int) ((2 ^ n : Nat) : Int) = ((a + 2 ^ n : Nat) : Int) := by
  have hp := pow16 n h
  have hk : ∀ q : Int, 0 ≤ q → q < 2 ^ 62 → IntKind.i64.wrap q = q := fun q h1 h2 => IntWalk.i64_in _ (by omega)
  have h1 : ((2 ^ n : Nat) : Int) % 2 ^ n = 0 := by
    have : ((2 : Int) ^ n) = ((2 ^ n : Nat) : Int) := by push_cast; rfl
    rw [this]; exact Int.emod_self
  have h2 : (a : Int) < 2 ^ n := by
    have : ((2 : Int) ^ n) = ((2 ^ n : Nat) : Int) := by push_cast; rfl
    rw [this]; exact_mod_cast ha
  have := bits_join_low .i64 62 (by decide) hk n (a : Int) ((2 ^ n : Nat) : Int) (by omega) h2 (by omega) (by omega) h1 (by omega)
  rw [this]; push_cast; rfl
theorem and_one (n : Nat) (h : n < 2 ^ 62) : bits BinOp.and IntKind.i64 (n : Int) 1 = ((n % 2 : Nat) : Int) := by
  have hk : ∀ q : Int, 0 ≤ q → q < 2 ^ 62 → IntKind.i64.wrap q = q := fun q h1 h2 => IntWalk.i64_in _ (by omega)
  have := (bits_nat .i64 62 (by decide) hk n 1 h (by decide)).1
  rw [Nat.and_one_is_mod] at this
  exact this
theorem shl_bit (n : Nat) (h : n ≤ 16) : wrap64 ((2 : Int) ^ n) = ((2 ^ n : Nat) : Int) := by
  have hp := pow16 n h
  have : ((2 : Int) ^ n) = ((2 ^ n : Nat) : Int) := by push_cast; rfl
  rw [this]
  unfold wrap64; omega

/-! A table at work. -/
structure TabAt (w : World) (columns : Int) (ol : List SubD) (A : Option Addr) (m : Nat) : Prop where
  ids : IntsAt w w.heap.size A (ol.map fun x => x.v.id)
  map : ∃ G n, MapFn w Tryz.prog 3 m n G ∧ ∀ x ∈ ol, G (.int .i64 x.v.id) = some (valsV x)
  vals : ∀ x ∈ ol, IntsAt w w.heap.size x.V x.v.vals
  ok : ∀ x ∈ ol, subB columns x.v = true
  len : ol.length ≤ 16
  col : 1 ≤ columns ∧ columns ≤ 5
theorem TabAt.later {w w' : World} {columns : Int} {ol : List SubD} {A : Option Addr} {m : Nat} (h : TabAt w columns ol A m) (hb : Below w.heap.size w w') : TabAt w' columns ol A m :=
  ⟨h.ids.later hb, by obtain ⟨G, n, h1, h2⟩ := h.map; exact ⟨G, n, h1.below hb h1.lt, h2⟩, fun x hx => (h.vals x hx).later hb, h.ok, h.len, h.col⟩
theorem zeroInts (w : World) : (zeroValue 32).run Tryz.prog w = .ok (.slice none 0 0) w := by kernel_rfl
theorem TabAt.look {w : World} {columns : Int} {ol : List SubD} {A : Option Addr} {m : Nat} (h : TabAt w columns ol A m) {x : SubD} (hx : x ∈ ol) :
    (Instr.lookup 70 (.map (some m)) (.int .i64 x.v.id) false).run Tryz.prog w = .ok (valsV x) w := by
  obtain ⟨G, n, h1, h2⟩ := h.map
  have hid := (sub_parts (h.ok x hx)).1
  have h3 := h1.look (int_keyed Tryz.underlying3) Tryz.underlying70 (zeroInts w) (keyOf_int_mk Tryz.underlying3 (show (Lit.int .i64 x.v.id).wf = true from WalkArith.wf_i64 (by omega)))
  rw [h2 x hx] at h3
  exact h3
/-- Who is asked for of the first i. -/
def askL (q : Que) (ol : List SubD) : List Bool := ol.map fun x => askB x.v q
def metU (q : Que) (ol : List SubD) : List SubD := ol.filter fun x => askB x.v q
theorem askL_take {q : Que} {ol : List SubD} {i : Nat} (h : i < ol.length) : askL q (ol.take (i + 1)) = askL q (ol.take i) ++ [askB ol[i].v q] := by
  unfold askL; rw [List.take_succ_eq_append_getElem h, List.map_append]; rfl
theorem metU_take {q : Que} {ol : List SubD} {i : Nat} (h : i < ol.length) : metU q (ol.take (i + 1)) = metU q (ol.take i) ++ if askB ol[i].v q = true then [ol[i]] else [] := by
  unfold metU; rw [List.take_succ_eq_append_getElem h, List.filter_append]
  by_cases h1 : askB ol[i].v q = true <;> simp [h1]
theorem askL_get {q : Que} {ol : List SubD} {i : Nat} (h : i < ol.length) : (askL q ol).getD i false = askB ol[i].v q := by
  unfold askL; simp [h]
/-- In order, those who are asked for are those that the reference finds. -/
theorem metL_eq {q : Que} {l ol : List SubD} (hp : ol.Perm l) (hs : ol.Pairwise fun x y => x.v.id ≤ y.v.id) (hn : (l.map fun x => x.v.id).Nodup) : (metU q ol).map (fun x => x.v.id) = metL (l.map SubD.v) q := by
  have hn2 : (ol.map fun x => x.v.id).Nodup := (hp.map fun x : SubD => x.v.id).nodup_iff.2 hn
  refine incr_ext _ _ ?_ (ordI_incr _) fun x => ?_
  · have h1 : ol.Pairwise fun x y => x.v.id < y.v.id := by
      have h2 : ol.Pairwise fun x y => x.v.id ≠ y.v.id := List.pairwise_map.1 hn2
      exact (hs.and h2).imp fun ⟨a, b⟩ => by omega
    exact List.pairwise_map.2 (h1.filter _)
  · rw [metL, ordI_mem]
    simp only [metU, List.mem_map, List.mem_filter]
    constructor
    · rintro ⟨y, ⟨h1, h2⟩, rfl⟩
      exact ⟨y.v, ⟨⟨y, hp.mem_iff.1 h1, rfl⟩, h2⟩, rfl⟩
    · rintro ⟨v, ⟨⟨y, h1, rfl⟩, h2⟩, rfl⟩
      exact ⟨y, ⟨hp.mem_iff.2 h1, h2⟩, rfl⟩
theorem sumL_perm {a b : List Int} (h : a.Perm b) : sumL a = sumL b := by
  induction h with
  | nil => rfl
  | cons x _ ih => simp [sumL, ih]
  | swap x y l => simp only [sumL]; omega
  | trans _ _ ih1 ih2 => exact ih1.trans ih2
theorem sumN_eq {q : Que} {l ol : List SubD} (hp : ol.Perm l) : sumL ((metU q ol).map fun x => cntQ x.v q) = sumN (l.map SubD.v) q := by
  have h1 : sumN (l.map SubD.v) q = sumL ((metU q l).map fun x => cntQ x.v q) := by
    unfold sumN metU
    rw [List.filter_map, List.map_map]; rfl
  rw [h1]
  exact sumL_perm ((hp.filter _).map _)
theorem intInfo : (Tryz.prog.info? 3).map (fun i => (i.zero, i.size, i.bytes)) = some (some (.int .i64 0), 1, 8) := by kernel_rfl
theorem int_new (w : World) (q : Int) (t : TypeId) : ∀ j u, (intC q)[j]? = some u → (w.alloc (.cells #[.int .i64 q] t)).cell? ((⟨w.heap.size, 0, none⟩ : Addr).add j) = some u := fun j u hj => by
  rw [WideShapes.add_plain, Nat.zero_add]
  exact ((Blk.new w #[.int .i64 q] t).cell j).trans (by simpa [intC] using hj)
def idsL (l : List SubD) : List Int := l.map fun x => x.v.id
def metV (columns : Int) (l : List Sub) (q : Que) : List Int := if askE columns l q = 0 then metL l q else []
/-- Numbers in new memory, and an error. -/
def MeetsPost (w : World) (v : List Int) (E : Int) (e : Ending) (w' : World) : Prop := ∃ A' c', e = .returned (.tuple #[.slice A' v.length c', .int .i64 E]) ∧ IntsAt w' w'.heap.size A' v ∧ Below w.heap.size w w'
end Go.Proofs.YtbkekdbabkncfaaGreat

namespace Go.Proofs.YtbkekdbabkncfaaGreat
open Go.RowKit Go.Maps

structure Frc where
  n : Int
  d : Int
deriving DecidableEq
instance : Inhabited Frc := ⟨⟨0, 1⟩⟩
def frcC (x : Frc) : List Value := [.int .i64 x.n, .int .i64 x.d]
theorem frcC_len (x : Frc) : (frcC x).length = 2 := rfl
theorem frcC_one (x : Frc) : ∀ u ∈ frcC x, u.oneCell' = true := fun u hu => by
  simp only [frcC, List.mem_cons, List.not_mem_nil, or_false] at hu
  rcases hu with rfl | rfl <;> rfl
abbrev FrcAt (w : World) (B : Nat) (A : Option Addr) (l : List Frc) : Prop := Flat 2 frcC w B A l
theorem frc_at {w : World} {B : Nat} {A : Option Addr} {l : List Frc} (h : FrcAt w B A l) {k : Nat} (hk : k < l.length) : ∃ b off, A = some ⟨b, off, none⟩ ∧ b < B ∧ w.cell? ⟨b, off + k * 2, none⟩ = some (.int .i64 l[k].n) ∧ w.cell? ⟨b, off + k * 2 + 1, none⟩ = some (.int .i64 l[k].d) := by
  obtain ⟨b, off, e, h1, h2⟩ := h k hk
  exact ⟨b, off, e, h1, h2 0 (by omega), h2 1 (by omega)⟩

/-! The greatest common divisor, fractions in lowest terms. -/
def gcdI (a b : Int) : Int := (Int.gcd a b : Nat)
theorem gcdI_rem (a b : Int) : gcdI b (a.tmod b) = gcdI a b := by
  unfold gcdI
  have h1 : Int.gcd b (a.tmod b) = Nat.gcd b.natAbs (a.natAbs % b.natAbs) := by
    show Nat.gcd b.natAbs (a.tmod b).natAbs = _
    rw [Int.natAbs_tmod]
  have h2 : Int.gcd a b = Nat.gcd a.natAbs b.natAbs := rfl
  rw [h1, h2, Nat.gcd_comm b.natAbs, ← Nat.gcd_rec, Nat.gcd_comm]
theorem gcdI_zero (a : Int) : gcdI a 0 = (a.natAbs : Int) := by unfold gcdI; simp
theorem gcdI_first (a b : Int) : gcdI 0 a = (a.natAbs : Int) ∧ gcdI a b = gcdI b a := by
  unfold gcdI; exact ⟨by simp, by rw [Int.gcd_comm]⟩
theorem gcdI_le {a b : Int} (hb : b ≠ 0) : 1 ≤ gcdI a b ∧ gcdI a b ≤ (b.natAbs : Int) := by
  unfold gcdI
  have h1 : 0 < Int.gcd a b := Int.gcd_pos_of_ne_zero_right a hb
  have h2 : Int.gcd a b ≤ b.natAbs := Nat.gcd_le_right a.natAbs (Nat.pos_of_ne_zero (by omega))
  omega
def ratF (n d : Int) : Frc := if d < 0 then ⟨-(n / gcdI n d), -(d / gcdI n d)⟩ else ⟨n / gcdI n d, d / gcdI n d⟩
def intF (n : Int) : Frc := ⟨n, 1⟩
def subF (a b : Frc) : Frc := ratF (a.n * b.d - b.n * a.d) (a.d * b.d)
def mulF (a b : Frc) : Frc := ratF (a.n * b.n) (a.d * b.d)
def divF (a b : Frc) : Frc := ratF (a.n * b.d) (a.d * b.n)
def someF (a : Frc) : Bool := decide (a ≠ ⟨0, 1⟩)
/-- A fraction with which one may reckon. -/
def bdF (x : Frc) : Bool := inN x.n (-1000000000) 1000000000 && inN x.d 1 1000000000
theorem bdF_iff {x : Frc} : bdF x = true ↔ (-1000000000 ≤ x.n ∧ x.n ≤ 1000000000) ∧ 1 ≤ x.d ∧ x.d ≤ 1000000000 := by unfold bdF; rw [Bool.and_eq_true, inN_iff, inN_iff]
theorem mul_bd {a b : Int} (ha : -1000000000 ≤ a ∧ a ≤ 1000000000) (hb : -1000000000 ≤ b ∧ b ≤ 1000000000) : -1000000000000000000 ≤ a * b ∧ a * b ≤ 1000000000000000000 := by
  have h1 : (a * b).natAbs ≤ 1000000000 * 1000000000 := by
    rw [Int.natAbs_mul]
    exact Nat.mul_le_mul (by omega) (by omega)
  omega
/-- What the program's division of n by the divisor (with the sign of d) is. -/
theorem tdiv_gcd_left (n d : Int) : n.tdiv (gcdI n d) = n / gcdI n d := by
  have h : (gcdI n d) ∣ n := by unfold gcdI; exact Int.gcd_dvd_left ..
  exact Int.tdiv_eq_ediv_of_dvd h
theorem tdiv_gcd_right (n d : Int) : d.tdiv (gcdI n d) = d / gcdI n d := by
  have h : (gcdI n d) ∣ d := by unfold gcdI; exact Int.gcd_dvd_right ..
  exact Int.tdiv_eq_ediv_of_dvd h

/-! Lists of fractions. -/
def digL (b : Nat) (n : Nat) : List Frc := (List.range n).map fun i => intF ((b / 2 ^ i % 2 : Nat) : Int)
def lessL (l : List Frc) (n : Frc) (o : List Frc) : List Frc := List.zipWith (fun f g => subF f (mulF n g)) l o
def lessB (l : List Frc) (n : Frc) (o : List Frc) : Bool := l.all bdF && bdF n && o.all bdF && o.all (fun g => bdF (mulF n g)) && decide (l.length ≤ o.length)
def divL (l : List Frc) (n : Frc) : List Frc := l.map fun f => divF f n
def divB (l : List Frc) (n : Frc) : Bool := l.all bdF && bdF n && decide (n.n ≠ 0)
/-- The first fraction from a place on that is not 0. -/
def fndF (l : List Frc) (k : Nat) : Option Nat := (List.range l.length).find? fun i => decide (k ≤ i) && someF (l.getD i default)
theorem fnd_some {l : List Frc} {k i : Nat} (hi : i < l.length) (hk : k ≤ i) (h : someF l[i] = true) (hn : ∀ j, (hj : j < l.length) → k ≤ j → j < i → someF l[j] = false) : fndF l k = some i := by
  unfold fndF
  rw [List.find?_range_eq_some]
  refine ⟨by rw [getD_lt l _ hi, h]; simpa using hk, by simpa using hi, fun j hj => ?_⟩
  rw [getD_lt l _ (by omega : j < l.length)]
  by_cases hkj : k ≤ j
  · rw [hn j (by omega) hkj hj]; simp
  · simp [hkj]
theorem fnd_none {l : List Frc} {k : Nat} (hn : ∀ j, (hj : j < l.length) → k ≤ j → someF l[j] = false) : fndF l k = none := by
  unfold fndF
  rw [List.find?_eq_none]
  intro j hj
  rw [List.mem_range] at hj
  rw [getD_lt l _ hj]
  by_cases hkj : k ≤ j
  · rw [hn j hj hkj]; simp
  · simp [hkj]

/-! Equations, and those of subjects that are led. -/
structure Eqn where
  fs : List Frc
  ps : List Frc
structure Led where
  e : Eqn
  at_ : Nat
def witE (e : Eqn) (l : Led) : Eqn := ⟨lessL e.fs (e.fs.getD l.at_ default) l.e.fs, lessL e.ps (e.fs.getD l.at_ default) l.e.ps⟩
def witB (e : Eqn) (l : Led) : Bool := decide (l.at_ < e.fs.length) && lessB e.fs (e.fs.getD l.at_ default) l.e.fs && lessB e.ps (e.fs.getD l.at_ default) l.e.ps
def empE (e : Eqn) : Bool := (fndF e.fs 0).isNone
def leadE (e : Eqn) : Led := ⟨⟨divL e.fs (e.fs.getD ((fndF e.fs 0).getD 0) default), divL e.ps (e.fs.getD ((fndF e.fs 0).getD 0) default)⟩, (fndF e.fs 0).getD 0⟩
def leadB (e : Eqn) : Bool := !(empE e) && divB e.fs (e.fs.getD ((fndF e.fs 0).getD 0) default) && divB e.ps (e.fs.getD ((fndF e.fs 0).getD 0) default)
def joinL (ls : List Led) (x : Led) : List Led := (ls.map fun l => ⟨witE l.e x, l.at_⟩) ++ [x]
def joinB (ls : List Led) (x : Led) : Bool := ls.all fun l => witB l.e x
/-- An equation less all that are led, as long as it says something. -/
def redE : List Led → Eqn → Option Eqn
  | [], e => some e
  | l :: r, e => if empE (witE e l) = true then none else redE r (witE e l)
def redB : List Led → Eqn → Bool
  | [], _ => true
  | l :: r, e => witB e l && (empE (witE e l) || redB r (witE e l))
def solS (ls : List Led) (e : Eqn) : List Led := match redE ls e with
  | none => ls
  | some x => joinL ls (leadE x)
def solB1 (ls : List Led) (e : Eqn) : Bool := redB ls e && match redE ls e with
  | none => true
  | some x => leadB x && joinB ls (leadE x)
def solL : List Led → List Eqn → List Led
  | ls, [] => ls
  | ls, e :: r => solL (solS ls e) r
def solB : List Led → List Eqn → Bool
  | _, [] => true
  | ls, e :: r => solB1 ls e && solB (solS ls e) r
/-- The equations of questions that ask for somebody. -/
def eqnL (ol : List SubD) (m : Nat) : Nat → List Que → List Eqn
  | _, [] => []
  | i, q :: r => if bitsN (askL q ol) = 0 then eqnL ol m (i + 1) r else ⟨digL (bitsN (askL q ol)) ol.length, digL (2 ^ i) m⟩ :: eqnL ol m (i + 1) r
end Go.Proofs.YtbkekdbabkncfaaGreat
