/- What the program knows: four maps, and how they and all else stay while one of them is written. -/
import Derived.Test.YtliijiflbfgfaaaDoorANamed

namespace Go.Proofs.YtliijiflbfgfaaaDoor
open Go.RowKit Go.Maps

open Classical in
noncomputable def delFn (G : Lit → Option Value) (kl : Lit) (x : Lit) : Option Value := if x = kl then none else G x
theorem MapFn.del {P : Program} {k : TypeId} {w : World} {b n : Nat} {G : Lit → Option Value} {t e : TypeId} (h : MapFn w P k b n G) (K : Keyed P k) (ht : P.underlying t = some (.map k e)) {key : Value} {kl : Lit} (hkey : keyOf P k key = some kl) (ty : TypeId) :
    ∃ w', (Builtin.delete_ #[t, k] ty #[.map (some b), key]).run P w = .ok (.tuple #[]) w' ∧ MapFn w' P k b n (delFn G kl) ∧ w.grownBy w' (some b) := by
  obtain ⟨D, h1, h2⟩ := h
  obtain ⟨w', hrun, h3, h4⟩ := h1.drop K ht hkey ty
  refine ⟨w', hrun, ⟨_, h3, fun x z => ?_⟩, h4.grown⟩
  unfold delFn
  by_cases hx : x = kl
  · subst hx; rw [if_pos rfl, atKey_del_same]; rfl
  · rw [if_neg hx, atKey_del_other hx]; exact h2 x z
theorem intG_del (f : Int → Option Value) (x : Int) : delFn (intG f) (.int .i64 x) = intG (fun y => if y = x then none else f y) := by
  funext k
  unfold delFn
  by_cases h : k = .int .i64 x
  · subst h; rw [if_pos rfl, intG_at, if_pos rfl]
  · rw [if_neg h]
    unfold intG
    split
    · rename_i y
      by_cases e : y = x
      · subst e; exact absurd rfl h
      · show f y = if y = x then none else f y
        rw [if_neg e]
    · rfl

/-- From block B on maps may turn, and new blocks come; cells stay. -/
structure Step (B : Nat) (w w' : World) : Prop where
  below : Below B w w'
  cel : ∀ (b : Nat) (cs : Array Value) (t : TypeId) (fr : Nat × Nat), w.heap[b]? = some (Obj.cells cs t fr) → w'.heap[b]? = some (Obj.cells cs t fr)
theorem Step.refl (B : Nat) (w : World) : Step B w w := ⟨Below.refl _ _, fun _ _ _ _ h => h⟩
theorem Step.trans {B : Nat} {a b c : World} (h : Step B a b) (k : Step B b c) : Step B a c := ⟨h.below.trans k.below, fun x cs t fr e => k.cel x cs t fr (h.cel x cs t fr e)⟩
theorem Step.size {B : Nat} {w w' : World} (h : Step B w w') : w.heap.size ≤ w'.heap.size := h.below.size
theorem Step.of {B : Nat} {w w' : World} (h : Below w.heap.size w w') (hB : B ≤ w.heap.size) : Step B w w' :=
  ⟨h.mono hB, fun b _ _ _ e => (h.block b (Array.getElem?_eq_some_iff.1 e).1).trans e⟩
theorem Step.mono {B B' : Nat} {w w' : World} (h : Step B w w') (hB : B' ≤ B) : Step B' w w' := ⟨h.below.mono hB, h.cel⟩
theorem Step.alloc {B : Nat} (w : World) (hB : B ≤ w.heap.size) (o : Obj) : Step B w (w.alloc o) := .of ((Below.refl _ _).alloc (Nat.le_refl _) o) hB
theorem Step.turn {B : Nat} {w w' : World} {m : Nat} {o : Obj} (hg : w.grownBy w' (some m)) (hm : w.heap[m]? = some o) (ho : o.isCells = false) (hB : B ≤ m) : Step B w w' := by
  have hlt : m < w.heap.size := (Array.getElem?_eq_some_iff.1 hm).1
  refine ⟨(Below.refl B w).grown hg (by omega) (fun k e => by cases e; exact hB), fun b cs t fr e => ?_⟩
  refine (hg.block b (Array.getElem?_eq_some_iff.1 e).1 (fun h => ?_)).trans e
  cases h
  rw [hm] at e
  cases e
  cases ho
theorem Blk.step {B : Nat} {w w' : World} {g : Nat} {cs : Array Value} {t : TypeId} (h : Blk w g cs t) (hs : Step B w w') : Blk w' g cs t := hs.cel g cs t _ h
theorem cell_step {B : Nat} {w w' : World} {p : Addr} {v : Value} (h : w.cell? p = some v) (hs : Step B w w') : w'.cell? p = some v := by
  have hb : ∃ cs t fr, w.heap[p.block]? = some (.cells cs t fr) := by
    unfold World.cell? at h
    cases ho : w.heap[p.block]? with
    | none => rw [ho] at h; cases h
    | some o =>
      rw [ho] at h
      cases o with
      | cells cs t fr => exact ⟨cs, t, fr, rfl⟩
      | _ => cases h
  obtain ⟨cs, t, fr, e⟩ := hb
  exact (World.cell?_of_block (w := w) ((hs.cel _ _ _ _ e).trans e.symm)).trans h
theorem Reps.step {B : Nat} {w w' : World} {A : Option Addr} {l : List Rep} (h : Reps w w.heap.size A l) (hs : Step B w w') : Reps w' w'.heap.size A l := fun k hk => by
  obtain ⟨b, off, e, h1, h2⟩ := h k hk
  refine ⟨b, off, e, Nat.lt_of_lt_of_le h1 hs.size, fun i hi => ?_⟩
  have h3 := h2 i hi
  have hlt : i < (#[.int .i64 l[k].id, .int .i64 l[k].src, .int .i64 l[k].acc, .int .i64 l[k].made, .int .i64 l[k].about, .int .u8 l[k].kind, .int .i64 l[k].cents, .int .i64 l[k].of_] : Array Value).size := hi
  rw [Array.getElem?_eq_getElem hlt] at h3 ⊢
  exact cell_step h3 hs
theorem NeedsAt.step {B : Nat} {w w' : World} (h : NeedsAt w) (hs : Step B w w') (hB : 0 < B) : NeedsAt w' := h.below hs.below hB

/-- Four maps from numbers. -/
structure KN (w : World) (m0 m1 m2 m3 n : Nat) (f0 f1 f2 f3 : Int → Option Value) : Prop where
  r0 : MapFn w Tryd.prog 3 m0 n (intG f0)
  r1 : MapFn w Tryd.prog 3 m1 n (intG f1)
  r2 : MapFn w Tryd.prog 3 m2 n (intG f2)
  r3 : MapFn w Tryd.prog 3 m3 n (intG f3)
/-- Four blocks, all different. -/
structure M4 (B m0 m1 m2 m3 : Nat) : Prop where
  l0 : B ≤ m0
  l1 : m0 < m1
  l2 : m1 < m2
  l3 : m2 < m3
theorem KN.more {w w' : World} {m0 m1 m2 m3 n : Nat} {f0 f1 f2 f3 : Int → Option Value} (h : KN w m0 m1 m2 m3 n f0 f1 f2 f3) (hg : w.grownBy w' none) : KN w' m0 m1 m2 m3 n f0 f1 f2 f3 :=
  ⟨h.r0.kept hg (by simp), h.r1.kept hg (by simp), h.r2.kept hg (by simp), h.r3.kept hg (by simp)⟩
theorem KN.later {w w' : World} {m0 m1 m2 m3 n : Nat} {f0 f1 f2 f3 : Int → Option Value} (h : KN w m0 m1 m2 m3 n f0 f1 f2 f3) (hg : Below w.heap.size w w') : KN w' m0 m1 m2 m3 n f0 f1 f2 f3 := h.more (grown_of_below hg)
theorem KN.alloc {w : World} {m0 m1 m2 m3 n : Nat} {f0 f1 f2 f3 : Int → Option Value} (h : KN w m0 m1 m2 m3 n f0 f1 f2 f3) (o : Obj) : KN (w.alloc o) m0 m1 m2 m3 n f0 f1 f2 f3 := ⟨h.r0.alloc o, h.r1.alloc o, h.r2.alloc o, h.r3.alloc o⟩
theorem KN.mono {w : World} {m0 m1 m2 m3 n n' : Nat} {f0 f1 f2 f3 : Int → Option Value} (h : KN w m0 m1 m2 m3 n f0 f1 f2 f3) (hn : n ≤ n') : KN w m0 m1 m2 m3 n' f0 f1 f2 f3 := ⟨h.r0.mono hn, h.r1.mono hn, h.r2.mono hn, h.r3.mono hn⟩
/-- An iterator turns. -/
theorem KN.turn {w w' : World} {m0 m1 m2 m3 n r : Nat} {f0 f1 f2 f3 : Int → Option Value} (h : KN w m0 m1 m2 m3 n f0 f1 f2 f3) (hg : w.grownBy w' (some r)) (hr : ∀ es c, w.heap[r]? ≠ some (.map es c)) : KN w' m0 m1 m2 m3 n f0 f1 f2 f3 := by
  have q : ∀ {m G}, MapFn w Tryd.prog 3 m n G → MapFn w' Tryd.prog 3 m n G := fun {m G} hm => hm.kept hg (fun e => by
    obtain ⟨es, c, hc⟩ := mapFn_heap hm
    rw [Option.some.inj e] at hc
    exact hr es c hc)
  exact ⟨q h.r0, q h.r1, q h.r2, q h.r3⟩
section
variable {w w' : World} {B m0 m1 m2 m3 n n' : Nat} {f0 f1 f2 f3 f : Int → Option Value}
theorem KN.put0 (h : KN w m0 m1 m2 m3 n f0 f1 f2 f3) (hm : M4 B m0 m1 m2 m3) (hg : w.grownBy w' (some m0)) (hn : n ≤ n') (hp : MapFn w' Tryd.prog 3 m0 n' (intG f)) : KN w' m0 m1 m2 m3 n' f f1 f2 f3 := by
  obtain ⟨_, _, _, _⟩ := hm
  exact ⟨hp, (h.r1.kept hg (fun e => by have := Option.some.inj e; omega)).mono hn, (h.r2.kept hg (fun e => by have := Option.some.inj e; omega)).mono hn, (h.r3.kept hg (fun e => by have := Option.some.inj e; omega)).mono hn⟩
theorem KN.put1 (h : KN w m0 m1 m2 m3 n f0 f1 f2 f3) (hm : M4 B m0 m1 m2 m3) (hg : w.grownBy w' (some m1)) (hn : n ≤ n') (hp : MapFn w' Tryd.prog 3 m1 n' (intG f)) : KN w' m0 m1 m2 m3 n' f0 f f2 f3 := by
  obtain ⟨_, _, _, _⟩ := hm
  exact ⟨(h.r0.kept hg (fun e => by have := Option.some.inj e; omega)).mono hn, hp, (h.r2.kept hg (fun e => by have := Option.some.inj e; omega)).mono hn, (h.r3.kept hg (fun e => by have := Option.some.inj e; omega)).mono hn⟩
theorem KN.put2 (h : KN w m0 m1 m2 m3 n f0 f1 f2 f3) (hm : M4 B m0 m1 m2 m3) (hg : w.grownBy w' (some m2)) (hn : n ≤ n') (hp : MapFn w' Tryd.prog 3 m2 n' (intG f)) : KN w' m0 m1 m2 m3 n' f0 f1 f f3 := by
  obtain ⟨_, _, _, _⟩ := hm
  exact ⟨(h.r0.kept hg (fun e => by have := Option.some.inj e; omega)).mono hn, (h.r1.kept hg (fun e => by have := Option.some.inj e; omega)).mono hn, hp, (h.r3.kept hg (fun e => by have := Option.some.inj e; omega)).mono hn⟩
theorem KN.put3 (h : KN w m0 m1 m2 m3 n f0 f1 f2 f3) (hm : M4 B m0 m1 m2 m3) (hg : w.grownBy w' (some m3)) (hn : n ≤ n') (hp : MapFn w' Tryd.prog 3 m3 n' (intG f)) : KN w' m0 m1 m2 m3 n' f0 f1 f2 f := by
  obtain ⟨_, _, _, _⟩ := hm
  exact ⟨(h.r0.kept hg (fun e => by have := Option.some.inj e; omega)).mono hn, (h.r1.kept hg (fun e => by have := Option.some.inj e; omega)).mono hn, (h.r2.kept hg (fun e => by have := Option.some.inj e; omega)).mono hn, hp⟩
end
theorem KN.step_put {w w' : World} {B m n : Nat} {G : Lit → Option Value} (h : MapFn w Tryd.prog 3 m n G) (hg : w.grownBy w' (some m)) (hB : B ≤ m) : Step B w w' := by
  obtain ⟨es, c, hc⟩ := mapFn_heap h
  exact Step.turn hg hc rfl hB
/-- What is known, as a value. -/
abbrev knowV (m0 m1 m2 m3 : Nat) : Value := .agg #[.map (some m0), .map (some m1), .map (some m2), .map (some m3)]

/-! What withdrawals leave in both maps that they write. -/
def wdM (K ws : List Rep) : Int → Option Value := fun id => if 0 ≤ wdP K ws id then some (.int .i64 (wdP K ws id)) else none
def wkM (K ws : List Rep) : Int → Option Value := fun id => if (ws.any fun w => decide (w.id = id) && worksW K w) = true then some (.bool true) else none
theorem wdM_nil (K : List Rep) : wdM K [] = fun _ => none := by funext id; unfold wdM; rw [wdP_nil, if_neg (by omega)]
theorem wkM_nil (K : List Rep) : wkM K [] = fun _ => none := by funext id; unfold wkM; rw [if_neg (by simp)]
theorem wdM_skip {K ws : List Rep} {w : Rep} (hk : w.kind = 9) (hw : worksW K w = false) : wdM K (ws ++ [w]) = wdM K ws := by
  funext id
  have e : wdP K (ws ++ [w]) id = wdP K ws id := by rw [wdP_step, if_neg (by rw [wdB_of K id w hk, hw]; simp)]
  unfold wdM
  rw [e]
theorem wkM_skip {K ws : List Rep} {w : Rep} (hw : worksW K w = false) : wkM K (ws ++ [w]) = wkM K ws := by
  funext id
  unfold wkM
  simp [List.any_append, hw]
theorem wkM_put {K ws : List Rep} {w : Rep} (hw : worksW K w = true) : (fun y => if y = w.id then some (Value.bool true) else wkM K ws y) = wkM K (ws ++ [w]) := by
  funext id
  unfold wkM
  by_cases h : id = w.id
  · subst h; rw [if_pos rfl, if_pos (by simp [List.any_append, hw])]
  · rw [if_neg h]
    have : ¬ w.id = id := fun e => h e.symm
    simp [List.any_append, this]
theorem wdM_put {K ws : List Rep} {w : Rep} (hk : w.kind = 9) (hw : worksW K w = true) (h0 : 0 ≤ w.id) (hl : wdP K ws w.of_ < 0 ∨ w.id < wdP K ws w.of_) : (fun y => if y = w.of_ then some (Value.int .i64 w.id) else wdM K ws y) = wdM K (ws ++ [w]) := by
  funext id
  unfold wdM
  by_cases h : id = w.of_
  · subst h
    have e : wdP K (ws ++ [w]) w.of_ = w.id := by
      rw [wdP_step, if_pos (by rw [wdB_of K _ w hk, hw]; simp)]
      unfold lessId
      rw [if_pos hl]
    rw [if_pos rfl, e, if_pos h0]
  · have e : wdP K (ws ++ [w]) id = wdP K ws id := by rw [wdP_step, if_neg (by rw [wdB_of K id w hk, hw]; simp; exact fun e => h e.symm)]
    rw [if_neg h, e]
theorem wdM_keep {K ws : List Rep} {w : Rep} (hk : w.kind = 9) (hw : worksW K w = true) (hl : ¬ (wdP K ws w.of_ < 0 ∨ w.id < wdP K ws w.of_)) : wdM K (ws ++ [w]) = wdM K ws := by
  funext id
  have e : wdP K (ws ++ [w]) id = wdP K ws id := by
    rw [wdP_step]
    by_cases h : wdB K id w = true
    · rw [if_pos h]
      rw [wdB_of K id w hk, hw] at h
      simp only [Bool.and_true, decide_eq_true_eq] at h
      subst h
      unfold lessId
      rw [if_neg hl]
    · rw [if_neg h]
  unfold wdM
  rw [e]

end Go.Proofs.YtliijiflbfgfaaaDoor
