/- A range over a function that hands on memory of its own: the iterator's contract, and the law for its caller. -/
import Derived.RangeFuncNested
import Derived.RangeFuncBound
import Derived.RangeFuncCalls
import Derived.RangeFuncLeaves
import Derived.Shelf.Abstract
import Derived.Shelf.RegionOpen
import Derived.WalkKit
import Derived.OwnWalkIn
import Derived.TacticsInMore
import Derived.LoopNIn
import Derived.LoopIn
import Derived.Test.YtijhbcmmoagdmaaBSaidP1
import Derived.Test.YtijhbcmmoagdmaaBSaidP3
import Derived.Test.YtijhbcmmoagdmaaBSaidP2

namespace Go.Proofs.Ytijhbcmmoagdmaa
open Go.RowKit Go.Shelf

/-- The blocks with P stay. -/
structure Kpt (P : Nat → Prop) (A B : World) : Prop where
  size : A.heap.size ≤ B.heap.size
  blk : ∀ b, b < A.heap.size → P b → B.heap[b]? = A.heap[b]?
section
variable {P Q : Nat → Prop} {A B C : World}
theorem Kpt.refl (P : Nat → Prop) (A : World) : Kpt P A A := ⟨Nat.le_refl _, fun _ _ _ => rfl⟩
theorem Kpt.trans (h : Kpt P A B) (k : Kpt P B C) : Kpt P A C := ⟨Nat.le_trans h.size k.size, fun b hb hp => (k.blk b (Nat.lt_of_lt_of_le hb h.size) hp).trans (h.blk b hb hp)⟩
theorem Kpt.imp (h : Kpt P A B) (hq : ∀ b, Q b → P b) : Kpt Q A B := ⟨h.size, fun b hb hp => h.blk b hb (hq b hp)⟩
theorem Kpt.imp' (h : Kpt P A B) (hq : ∀ b, b < A.heap.size → Q b → P b) : Kpt Q A B := ⟨h.size, fun b hb hp => h.blk b hb (hq b hb hp)⟩
theorem Kpt.of_below {D : Nat} (h : Below D A B) (hP : ∀ b, P b → b < D) : Kpt P A B := ⟨h.size, fun b _ hp => h.block b (hP b hp)⟩
theorem Kpt.of_all (h : Below A.heap.size A B) : Kpt P A B := ⟨h.size, fun b hb _ => h.block b hb⟩
theorem Kpt.set {p : Addr} (hp : ¬ P p.block) (v : Value) : Kpt P A (A.setCell p v) := ⟨by simp, fun b _ hb => Below.heap_setCell _ _ _ _ (fun e => hp (e ▸ hb))⟩
theorem Kpt.put {l : Nat} (hp : ¬ P l) (o : Obj) : Kpt P A (A.putObj l o) := ⟨by simp, fun b _ hb => World.putObj_heap_other (fun e => hp (by rw [e] at hb; first | exact hb | exact e ▸ hb))⟩
theorem Kpt.cell (h : Kpt P A B) {b o : Nat} (hb : b < A.heap.size) (hp : P b) : B.cell? ⟨b, o, none⟩ = A.cell? ⟨b, o, none⟩ := World.cell?_of_block (h.blk b hb hp)
end
/-- Cells lie there. -/
def CellsAt (A : World) (b : Nat) : Prop := ∃ o, A.heap[b]? = some o ∧ o.isCells = true
/-- What lay below D stays, and the cells from M on. -/
abbrev Kx (D M : Nat) (A B : World) : Prop := Kpt (fun b => b < D ∨ (M ≤ b ∧ CellsAt A b)) A B
theorem Kx.put {D M l : Nat} {A : World} (h1 : D ≤ l) (h2 : l < M) (o' : Obj) : Kx D M A (A.putObj l o') := Kpt.put (fun h => by rcases h with h | ⟨h, _⟩ <;> omega) o'
theorem Kx.set {D M : Nat} {A : World} {p : Addr} (h1 : D ≤ p.block) (h2 : p.block < M) (v : Value) : Kx D M A (A.setCell p v) := Kpt.set (fun h => by rcases h with h | ⟨h, _⟩ <;> omega) v
theorem Kx.own {D M B : Nat} {A A' : World} {row : Option Nat} (hg : A.grownBy A' row) (hD : D ≤ B) (hr : ∀ r, row = some r → B ≤ r ∧ ∃ o : Obj, A.heap[r]? = some o ∧ o.isCells = false) : Kx D M A A' := ⟨hg.size, fun b hb hp => hg.block b hb (fun e => by
  obtain ⟨h1, o, h2, h3⟩ := hr b e.symm
  rcases hp with h | ⟨_, o', h4, h5⟩
  · omega
  · rw [h2] at h4; cases h4; rw [h3] at h5; cases h5)⟩
theorem below_putObj {D : Nat} (W : World) (l : Nat) (o : Obj) (hl : D ≤ l) (hlt : l < W.heap.size) : Below D W (W.putObj l o) := (Below.refl D W).grown (grownBy_putObj' W l o) (by omega) (fun k e => by cases e; exact hl)

/-- The iterator's contract: 'At x W': what of x lies in memory when it is handed on; 'R': what it reads of the memory that it has not made. -/
def SeqM {α : Type} (F : Fence) (n : Nat) (P : Program) (g : Nat) (lb : Array Value) (encs : α → Array Value) (At : α → World → Prop) (R : Nat → Prop) (S Sp : List α → Prop) (w : World) : Prop :=
  ∀ (l : Nat) (J : List α → World → Prop) (Jx : Nat → List α → World → Prop) (W : World), Below w.heap.size w W →
    (∀ pre A B, J pre A → Below W.heap.size A B → J pre B) →
    (∀ M pre A B, Jx M pre A → Kx W.heap.size M A B → Jx M pre B) →
    (∀ pre x W1, J pre W1 → At x W1 → W.heap.size ≤ W1.heap.size → YieldAt F (n - 1) P l (encs x) W1 fun e W' =>
      (e = .returned (.bool true) ∧ J (pre ++ [x]) W' ∧ Kpt (fun b => R b ∨ W.heap.size ≤ b) W1 W') ∨ (e = .returned (.bool false) ∧ Jx W1.heap.size (pre ++ [x]) W' ∧ Kpt (fun b => R b ∨ W.heap.size ≤ b) W1 W')) →
    J [] W →
    CallsIn F n P g (#[.func (.yield l) #[] #[]] ++ lb) W fun e W' => (∃ v, e = .returned v) ∧ ((∃ xs, S xs ∧ J xs W') ∨ (∃ M pre, Sp pre ∧ Jx M pre W'))

/-- How the body of a round may be left. -/
def ownPostM {α : Type} (R : Nat → Prop) (B : Nat) (I : List α → World → Prop) (Ix : Code → Nat → List α → World → Prop) (xs : List α) (W : World) : Exit → Act → World → Prop
  | .normal, _, W' => Kpt (fun b => R b ∨ B ≤ b) W W' ∧ I xs W'
  | .ret, _, W' => Kpt (fun b => R b ∨ B ≤ b) W W' ∧ Ix .ret W.heap.size xs W'
  | .exit id, _, W' => Kpt (fun b => R b ∨ B ≤ b) W W' ∧ Ix (.exit id) W.heap.size xs W'
  | .goto t, _, W' => Kpt (fun b => R b ∨ B ≤ b) W W' ∧ Ix (.goto t) W.heap.size xs W'
  | .panic _, _, _ => False
  | .outgrown, _, _ => False

variable {F : Fence} {n : Nat} {P : Program}

theorem wpIn_rangeFunc_ownM {α : Type} {g : Operand} {ps : Array Tmp} {assign body : Code} {Q : Exit → Act → World → Prop} {a : Act} {w : World}
    (hro : F.round = none) (h1 : 1 ≤ n) {gf : Nat} {lb : Array Value} (hg : a.eval g = .func (.func gf) #[] lb) (hFg : F.fn gf) (eg : ∀ args w, (callFunc gf args).run P w = .ok (.enter gf args) w)
    {encs : α → Array Value} {At : α → World → Prop} {R : Nat → Prop} {S Sp : List α → Prop} {w0 : World} (hseq : SeqM F (n - 1) P gf lb encs At R S Sp w0)
    (hR : ∀ b, R b → b < w.heap.size) (hb0 : Below w0.heap.size w0 w) (hps : ∀ x, (encs x).size = ps.size)
    (I : List α → World → Prop) (Ix : Code → Nat → List α → World → Prop) (hI : ∀ pre A B, I pre A → Below w.heap.size A B → I pre B) (hIx : ∀ c M pre A B, Ix c M pre A → Kx w.heap.size M A B → Ix c M pre B) (h0 : I [] w) (a₁ : α → Act)
    (hassign : ∀ (l : Nat) (x : α) (W : World) (K : Act → World → Prop), K (a₁ x) W →
      assign.wpIn (F.inRound l) (n - 1 - 1) P (Exit.then K (fun _ _ _ => False)) { tmps := (ps.zip (encs x)).foldl (fun t (p, v) => t.setIfInBounds p v) a.tmps, defers := [] } W)
    (hbody : ∀ (l : Nat) (pre : List α) (x : α) (W : World), w.heap.size ≤ l → (∃ r, W.heap[l]? = some (.loop r)) → I pre W → (∃ W0, At x W0 ∧ (∃ r, W0.heap[l]? = some (.loop r)) ∧ Kpt (fun b => b ≠ l) W0 W) → w.heap.size ≤ W.heap.size → body.wpIn (F.inRound l) (n - 1 - 1) P (ownPostM R w.heap.size I Ix (pre ++ [x]) W) (a₁ x) W)
    (hdone : ∀ (D : Nat) (xs : List α) (W : World), w.heap.size ≤ D → S xs → I xs W → W.heap[D]? = some (.deferred (some [])) → Q .normal { a with defers := { target := .collected D, args := #[] } :: a.defers } W)
    (hstop : ∀ (D : Nat) (c : Code) (M : Nat) (pre : List α) (W : World), w.heap.size ≤ D → Sp pre → Ix c M pre W → W.heap[D]? = some (.deferred (some [])) → c.wpIn F n P Q { a with defers := { target := .collected D, args := #[] } :: a.defers } W) :
    (Code.rangeFunc g ps assign body).wpIn F n P Q a w := by
  refine wpIn_rangeFunc ?_
  intro fn hfn
  rw [hro]
  obtain ⟨rec, hrec⟩ : ∃ rec : LoopState → Option Code → Loop, rec = fun st pe => { state := st, pending := pe, fn, tmps := a.tmps, params := ps, assign, body, defers := w.heap.size } := ⟨_, rfl⟩
  obtain ⟨W1, hW1⟩ : ∃ W1, (w.alloc (.deferred (some []))).alloc (.loop (rec .ready none)) = W1 := ⟨_, rfl⟩
  have hL1 : W1.heap[w.heap.size + 1]? = some (.loop (rec .ready none)) := by
    rw [← hW1]; have := World.alloc_heap_new (w.alloc (.deferred (some []))) (.loop (rec .ready none)); rwa [World.size_alloc] at this
  have hK1 : W1.heap[w.heap.size]? = some (.deferred (some [])) := by
    rw [← hW1]; exact (Below.heap_alloc _ _ _ (by simp)).trans (World.alloc_heap_new w _)
  have hb1' : Below w.heap.size w W1 := by
    rw [← hW1]; exact ((Below.refl _ w).alloc (Nat.le_refl _) _).alloc (by simp) _
  have hI1 : I [] W1 := hI _ _ _ h0 hb1'
  have hs1 : W1.heap.size = w.heap.size + 2 := by rw [← hW1]; simp
  refine ⟨w.heap.size + 1, [{ target := .collected w.heap.size, args := #[] }], W1, { target := .fn (.func gf) lb, args := #[.func (.yield (w.heap.size + 1)) #[] #[]] }, W1, gf,
    #[.func (.yield (w.heap.size + 1)) #[] #[]] ++ lb, W1, ?_, ?_, ?_, ?_, fun _ => h1, ?_⟩
  · rw [← hW1, hrec]; exact run_enterLoop_outer _ _ _ _ _
  · simp only [resolve, hg]
    simp [go_sem]
  · intro f' hf'; simp [Target.leads] at hf'; subst hf'; exact hFg
  · simp [invoke, go_sem, eg]
  · refine (hseq (w.heap.size + 1)
      (fun pre W => I pre W ∧ W.heap[w.heap.size + 1]? = some (.loop (rec .ready none)) ∧ W.heap[w.heap.size]? = some (.deferred (some [])))
      (fun M pre W => w.heap.size + 1 < M ∧ ∃ c, Ix c M pre W ∧ W.heap[w.heap.size + 1]? = some (.loop (rec .done (some c))) ∧ W.heap[w.heap.size]? = some (.deferred (some [])))
      W1 (hb0.trans (hb1'.mono hb0.size))
      (fun pre A B hs hg' => ⟨hI _ _ _ hs.1 (hg'.mono (by omega)), (hg'.block _ (by omega)).trans hs.2.1, (hg'.block _ (by omega)).trans hs.2.2⟩)
      (fun M pre A B hs hg' => by
        obtain ⟨hM, c, hc, hl, hk⟩ := hs
        have hl' := (Array.getElem?_eq_some_iff.1 hl).1
        exact ⟨hM, c, hIx c _ _ _ _ hc (hg'.imp (fun b hb => by rcases hb with h | h; exact .inl (by omega); exact .inr h)), (hg'.blk _ hl' (.inl (by omega))).trans hl, (hg'.blk _ (by omega) (.inl (by omega))).trans hk⟩)
      ?_ ⟨hI1, hL1, hK1⟩).mono ?_
    · -- one round
      rintro pre x W ⟨hi, hl, hk⟩ hat hsW
      have hlt : w.heap.size + 1 < W.heap.size := (Array.getElem?_eq_some_iff.1 hl).1
      have hy := run_yield (P := P) (args := encs x) hl (by rw [hrec]; exact hps x)
      rw [hrec] at hy
      refine ⟨fn, _, assign, body, hy, roundIn_of_wpIn hfn (hassign _ x W _ ⟨_, run_beginRound hl (by rw [hrec]), ?_⟩)⟩
      have hl2 : (W.putObj (w.heap.size + 1) (.loop { rec .ready none with state := .busy })).heap[w.heap.size + 1]? = some (.loop { rec .ready none with state := .busy }) := World.putObj_heap_same hlt
      have hk2 : (W.putObj (w.heap.size + 1) (.loop { rec .ready none with state := .busy })).heap[w.heap.size]? = some (.deferred (some [])) := (World.putObj_heap_other (by omega)).trans hk
      have hz2 : (W.putObj (w.heap.size + 1) (.loop { rec .ready none with state := .busy })).heap.size = W.heap.size := by simp
      have hRn : ∀ (D : Nat), w.heap.size + 1 < D → ¬ (R (w.heap.size + 1) ∨ D ≤ w.heap.size + 1) := fun D hD h => by
        rcases h with h | h
        · have := hR _ h; omega
        · omega
      refine wpIn_mono (hbody _ pre x _ (by omega) ⟨_, hl2⟩ (hI _ _ _ hi (below_putObj W _ _ (by omega) hlt)) ⟨W, hat, ⟨_, hl⟩, Kpt.put (fun h => h rfl) _⟩ (by simp; omega)) ?_
      have fin : ∀ (jump : Option Code) (W3 : World), Kpt (fun b => R b ∨ w.heap.size ≤ b) (W.putObj (w.heap.size + 1) (.loop { rec .ready none with state := .busy })) W3 →
          (Instr.endRound (w.heap.size + 1) jump).run P W3 = .ok (.bool jump.isNone) (W3.putObj (w.heap.size + 1) (.loop (rec (if jump.isNone then .ready else .done) jump))) ∧
          W3.heap[w.heap.size + 1]? = some (.loop { rec .ready none with state := .busy }) ∧
          (W3.putObj (w.heap.size + 1) (.loop (rec (if jump.isNone then .ready else .done) jump))).heap[w.heap.size + 1]? = some (.loop (rec (if jump.isNone then .ready else .done) jump)) ∧
          (W3.putObj (w.heap.size + 1) (.loop (rec (if jump.isNone then .ready else .done) jump))).heap[w.heap.size]? = some (.deferred (some [])) ∧
          Kpt (fun b => R b ∨ W1.heap.size ≤ b) W (W3.putObj (w.heap.size + 1) (.loop (rec (if jump.isNone then .ready else .done) jump))) := fun jump W3 hk3 => by
        have hl3 := (hk3.blk _ (by omega) (.inr (by omega))).trans hl2
        have := run_endRound (P := P) jump hl3
        rw [hrec] at this ⊢
        refine ⟨this, by rw [hrec] at hl3; exact hl3, World.putObj_heap_same (Array.getElem?_eq_some_iff.1 hl3).1, (World.putObj_heap_other (by omega)).trans ((hk3.blk _ (by omega) (.inr (Nat.le_refl _))).trans hk2), ?_⟩
        rw [hrec] at hk3
        exact ((Kpt.put (hRn _ (by omega)) _).trans (hk3.imp (fun b hb => by rcases hb with h | h; exact .inl h; exact .inr (by omega)))).trans (Kpt.put (hRn _ (by omega)) _)
      rintro e a3 W3 hp
      cases e with
      | normal =>
        obtain ⟨hk3, hi3⟩ := hp
        obtain ⟨hr, hl3, hl4, hk4, hkk⟩ := fin none W3 hk3
        exact ⟨_, _, hr, .inl ⟨rfl, ⟨hI _ _ _ hi3 (below_putObj W3 _ _ (by omega) (Array.getElem?_eq_some_iff.1 hl3).1), hl4, hk4⟩, hkk⟩⟩
      | ret =>
        obtain ⟨hk3, hi3⟩ := hp
        obtain ⟨hr, hl3, hl4, hk4, hkk⟩ := fin (some .ret) W3 hk3
        rw [hz2] at hi3
        exact ⟨_, _, hr, .inr ⟨rfl, ⟨hlt, .ret, hIx _ _ _ _ _ hi3 (Kx.put (by omega) (by omega) _), hl4, hk4⟩, hkk⟩⟩
      | exit id =>
        obtain ⟨hk3, hi3⟩ := hp
        obtain ⟨hr, hl3, hl4, hk4, hkk⟩ := fin (some (.exit id)) W3 hk3
        rw [hz2] at hi3
        exact ⟨_, _, hr, .inr ⟨rfl, ⟨hlt, .exit id, hIx _ _ _ _ _ hi3 (Kx.put (by omega) (by omega) _), hl4, hk4⟩, hkk⟩⟩
      | goto t =>
        obtain ⟨hk3, hi3⟩ := hp
        obtain ⟨hr, hl3, hl4, hk4, hkk⟩ := fin (some (.goto t)) W3 hk3
        rw [hz2] at hi3
        exact ⟨_, _, hr, .inr ⟨rfl, ⟨hlt, .goto t, hIx _ _ _ _ _ hi3 (Kx.put (by omega) (by omega) _), hl4, hk4⟩, hkk⟩⟩
      | panic ch => exact hp.elim
      | outgrown => exact hp.elim
    · -- behind the iterator
      rintro e W2 ⟨⟨v, rfl⟩, (⟨xs, hS, hi, hl, hk⟩ | ⟨M, pre, hSp, hM, c, hi, hl, hk⟩)⟩
      · exact ⟨none, _, by have := run_endLoop (P := P) hl (by rw [hrec]; simp); rw [hrec] at this; exact this, hdone _ xs _ (Nat.le_refl _) hS (hI _ _ _ hi (below_putObj W2 _ _ (by omega) (Array.getElem?_eq_some_iff.1 hl).1)) ((World.putObj_heap_other (by omega)).trans hk)⟩
      · exact ⟨some c, _, by have := run_endLoop (P := P) hl (by rw [hrec]; simp); rw [hrec] at this; exact this, hstop _ c M pre _ (Nat.le_refl _) hSp (hIx c _ _ _ _ hi (Kx.put (by omega) (by omega) _)) ((World.putObj_heap_other (by omega)).trans hk)⟩
end Go.Proofs.Ytijhbcmmoagdmaa

namespace Go.Proofs.Ytijhbcmmoagdmaa
open Go.RowKit Go.Maps

/-! Lists in increasing order. -/
def putI : List Int → Int → List Int
  | [], n => [n]
  | x :: r, n => if x < n then x :: putI r n else if x = n then x :: r else n :: x :: r
theorem putI_mem : ∀ (l : List Int) (n x : Int), x ∈ putI l n ↔ x = n ∨ x ∈ l
  | [], n, x => by simp [putI]
  | y :: r, n, x => by
    unfold putI
    split
    · rw [List.mem_cons, putI_mem r n x, List.mem_cons]; constructor
      · rintro (h | h | h) <;> simp [h]
      · rintro (h | h | h) <;> simp [h]
    · split
      · rename_i h; subst h; simp
      · simp
theorem putI_incr : ∀ (l : List Int) (n : Int), l.Pairwise (· < ·) → (putI l n).Pairwise (· < ·)
  | [], n, _ => by simp [putI]
  | y :: r, n, h => by
    obtain ⟨h1, h2⟩ := List.pairwise_cons.1 h
    unfold putI
    split
    · rename_i hlt
      refine List.pairwise_cons.2 ⟨fun z hz => ?_, putI_incr r n h2⟩
      rcases (putI_mem r n z).1 hz with rfl | hz
      · exact hlt
      · exact h1 z hz
    · split
      · exact h
      · rename_i h3 h4
        refine List.pairwise_cons.2 ⟨fun z hz => ?_, h⟩
        rcases List.mem_cons.1 hz with rfl | hz
        · omega
        · have := h1 z hz; omega
theorem incr_ext : ∀ (a b : List Int), a.Pairwise (· < ·) → b.Pairwise (· < ·) → (∀ x, x ∈ a ↔ x ∈ b) → a = b
  | [], [], _, _, _ => rfl
  | [], y :: b, _, _, h => by have := (h y).2 (List.mem_cons_self ..); simp at this
  | x :: a, [], _, _, h => by have := (h x).1 (List.mem_cons_self ..); simp at this
  | x :: a, y :: b, ha, hb, h => by
    obtain ⟨h1, h2⟩ := List.pairwise_cons.1 ha
    obtain ⟨h3, h4⟩ := List.pairwise_cons.1 hb
    have hxy : x = y := by
      rcases List.mem_cons.1 ((h x).1 (List.mem_cons_self ..)) with e | e
      · exact e
      · rcases List.mem_cons.1 ((h y).2 (List.mem_cons_self ..)) with e' | e'
        · exact e'.symm
        · have := h3 x e; have := h1 y e'; omega
    subst hxy
    congr 1
    refine incr_ext a b h2 h4 fun z => ⟨fun hz => ?_, fun hz => ?_⟩
    · rcases List.mem_cons.1 ((h z).1 (List.mem_cons_of_mem _ hz)) with e | e
      · subst e; have := h1 z hz; omega
      · exact e
    · rcases List.mem_cons.1 ((h z).2 (List.mem_cons_of_mem _ hz)) with e | e
      · subst e; have := h3 z hz; omega
      · exact e
/-- What is in a list, in order, each only once. -/
def ordI (cs : List Int) : List Int := cs.foldl putI []
theorem foldl_put (cs : List Int) : ∀ (a : List Int), a.Pairwise (· < ·) → (cs.foldl putI a).Pairwise (· < ·) ∧ ∀ x, x ∈ cs.foldl putI a ↔ x ∈ a ∨ x ∈ cs := by
  induction cs with
  | nil => exact fun a ha => ⟨ha, fun x => by simp⟩
  | cons c cs ih =>
    intro a ha
    obtain ⟨h1, h2⟩ := ih (putI a c) (putI_incr a c ha)
    refine ⟨h1, fun x => ?_⟩
    rw [List.foldl_cons, h2, putI_mem, List.mem_cons]
    constructor
    · rintro ((h | h) | h) <;> simp [h]
    · rintro (h | h | h) <;> simp [h]
theorem ordI_incr (cs : List Int) : (ordI cs).Pairwise (· < ·) := (foldl_put cs [] List.Pairwise.nil).1
theorem ordI_mem (cs : List Int) (x : Int) : x ∈ ordI cs ↔ x ∈ cs := by rw [ordI, (foldl_put cs [] List.Pairwise.nil).2]; simp
def spanIn (lo hi c : Int) : Bool := decide (lo < c) && decide (c ≤ hi)
/-- The least value, and all cuts above it, up to the greatest one. -/
def stepsI (lo hi : Int) (cs : List Int) : List Int := cs.foldl (fun a c => if spanIn lo hi c = true then putI a c else a) [lo]
theorem steps_fold (lo hi : Int) (cs : List Int) : ∀ (a : List Int), a.Pairwise (· < ·) → (cs.foldl (fun a c => if spanIn lo hi c = true then putI a c else a) a).Pairwise (· < ·) ∧ ∀ x, x ∈ cs.foldl (fun a c => if spanIn lo hi c = true then putI a c else a) a ↔ x ∈ a ∨ (x ∈ cs ∧ spanIn lo hi x = true) := by
  induction cs with
  | nil => exact fun a ha => ⟨ha, fun x => by simp⟩
  | cons c cs ih =>
    intro a ha
    rw [List.foldl_cons]
    by_cases hc : spanIn lo hi c = true
    · rw [if_pos hc]
      obtain ⟨h1, h2⟩ := ih (putI a c) (putI_incr a c ha)
      refine ⟨h1, fun x => ?_⟩
      rw [h2, putI_mem, List.mem_cons]
      constructor
      · rintro ((h | h) | h)
        · subst h; exact .inr ⟨.inl rfl, hc⟩
        · exact .inl h
        · exact .inr ⟨.inr h.1, h.2⟩
      · rintro (h | ⟨h | h, h'⟩)
        · exact .inl (.inr h)
        · exact .inl (.inl h)
        · exact .inr ⟨h, h'⟩
    · rw [if_neg hc]
      obtain ⟨h1, h2⟩ := ih a ha
      refine ⟨h1, fun x => ?_⟩
      rw [h2, List.mem_cons]
      constructor
      · rintro (h | h)
        · exact .inl h
        · exact .inr ⟨.inr h.1, h.2⟩
      · rintro (h | ⟨h | h, h'⟩)
        · exact .inl h
        · subst h; exact absurd h' hc
        · exact .inr ⟨h, h'⟩
theorem stepsI_incr (lo hi : Int) (cs : List Int) : (stepsI lo hi cs).Pairwise (· < ·) := (steps_fold lo hi cs [lo] (List.pairwise_singleton _ _)).1
theorem stepsI_mem (lo hi : Int) (cs : List Int) (x : Int) : x ∈ stepsI lo hi cs ↔ x = lo ∨ (x ∈ cs ∧ spanIn lo hi x = true) := by rw [stepsI, (steps_fold lo hi cs [lo] (List.pairwise_singleton _ _)).2]; simp
/-- The same by all cuts in order. -/
theorem typ_eq (lo hi : Int) (cs : List Int) : lo :: (ordI cs).filter (spanIn lo hi) = stepsI lo hi cs := by
  refine incr_ext _ _ ?_ (stepsI_incr lo hi cs) fun x => ?_
  · refine List.pairwise_cons.2 ⟨fun z hz => ?_, (ordI_incr cs).filter _⟩
    have := (List.mem_filter.1 hz).2
    simp [spanIn] at this
    exact this.1
  · rw [List.mem_cons, List.mem_filter, ordI_mem, stepsI_mem]

/-! The cuts of a trait. -/
def nodCuts (k : Int) (l : List Nod) : List Int := (l.filter fun n => decide (n.tr = k)).map Nod.cut
def cutsT (m : Mdl) (k : Nat) : List Int := (m.cards.flatMap fun c => (c.scales.getD k default).cuts) ++ (m.trees.flatMap fun t => nodCuts k t.nodes)
structure Spn where
  lo : Int
  hi : Int
instance : Inhabited Spn := ⟨⟨0, 0⟩⟩
def spnB (s : Spn) : Bool := inN s.lo 0 1000000 && inN s.hi s.lo 1000000
def spnsB (traits : Int) (x : List Spn) : Bool := decide ((x.length : Int) = traits) && x.all spnB
def betE (m : Mdl) (x : List Spn) : Int := if mdlB m = true then (if spnsB m.traits x = true then 0 else 61) else 60
def stepsL (m : Mdl) (x : List Spn) : List (List Int) := (List.range x.length).map fun k => stepsI (x.getD k default).lo (x.getD k default).hi (cutsT m k)

/-! All vectors, in order. -/
def vecs : List (List Int) → List (List Int)
  | [] => [[]]
  | l :: r => l.flatMap fun v => (vecs r).map (v :: ·)
def loL (l : List Int) : Int := -(l.foldl (fun a n => max a (-n)) (-9223372036854775808))
def hiL (l : List Int) : Int := l.foldl max (-9223372036854775808)
theorem loL_snoc (l : List Int) (n : Int) : loL (l ++ [n]) = min (loL l) n := by
  unfold loL; rw [List.foldl_append]; simp only [List.foldl_cons, List.foldl_nil]; omega
theorem hiL_snoc (l : List Int) (n : Int) : hiL (l ++ [n]) = max (hiL l) n := by
  unfold hiL; rw [List.foldl_append]; simp only [List.foldl_cons, List.foldl_nil]
def betV (m : Mdl) (x : List Spn) : Spn := if betE m x = 0 then ⟨loL ((vecs (stepsL m x)).map (scoreM m)), hiL ((vecs (stepsL m x)).map (scoreM m))⟩ else ⟨0, 0⟩

/-! The digits of a vector. -/
def nums : List Nat → Nat
  | [] => 1
  | n :: r => n * nums r
def digs : List Nat → Nat → List Nat
  | [], _ => []
  | _ :: r, i => i / nums r :: digs r (i % nums r)
theorem digs_len : ∀ (l : List Nat) (i : Nat), (digs l i).length = l.length
  | [], _ => rfl
  | _ :: r, i => by rw [digs, List.length_cons, digs_len r, List.length_cons]
theorem nums_pos : ∀ {l : List Nat}, (∀ n ∈ l, 0 < n) → 0 < nums l
  | [], _ => by simp [nums]
  | n :: r, h => by
    rw [nums]
    exact Nat.mul_pos (h n (List.mem_cons_self ..)) (nums_pos fun x hx => h x (List.mem_cons_of_mem _ hx))
theorem digs_lt : ∀ {l : List Nat}, (∀ n ∈ l, 0 < n) → ∀ {i : Nat}, i < nums l → ∀ (k : Nat) (hk : k < l.length) (hk' : k < (digs l i).length), (digs l i)[k] < l[k]
  | [], _, _, _, k, hk, _ => by simp at hk
  | n :: r, h, i, hi, k, hk, hk' => by
    have hp := nums_pos (l := r) fun x hx => h x (List.mem_cons_of_mem _ hx)
    cases k with
    | zero => simp only [digs, List.getElem_cons_zero]; rw [nums] at hi; exact (Nat.div_lt_iff_lt_mul hp).2 hi
    | succ k => simp only [digs, List.getElem_cons_succ]; exact digs_lt (fun x hx => h x (List.mem_cons_of_mem _ hx)) (Nat.mod_lt _ hp) k _ _
def lens (L : List (List Int)) : List Nat := L.map List.length
/-- The vector of some digits. -/
def vecD (L : List (List Int)) (d : List Nat) : List Int := (List.range L.length).map fun k => (L.getD k []).getD (d.getD k 0) 0
theorem vecD_cons (l : List Int) (L : List (List Int)) (a : Nat) (d : List Nat) : vecD (l :: L) (a :: d) = l.getD a 0 :: vecD L d := by
  unfold vecD
  rw [List.length_cons, List.range_succ_eq_map, List.map_cons, List.map_map]
  congr 1
theorem vecs_len : ∀ L : List (List Int), (vecs L).length = nums (lens L)
  | [] => rfl
  | l :: r => by
    have h : ∀ (q : List Int), (q.flatMap fun v => (vecs r).map (v :: ·)).length = q.length * (vecs r).length := by
      intro q
      induction q with
      | nil => simp
      | cons x q ih => rw [List.flatMap_cons, List.length_append, ih, List.length_map, List.length_cons, Nat.succ_mul, Nat.add_comm]
    show (l.flatMap fun v => (vecs r).map (v :: ·)).length = nums (l.length :: lens r)
    rw [h, vecs_len r]; rfl
theorem vecs_at : ∀ (L : List (List Int)), (∀ n ∈ lens L, 0 < n) → ∀ i (hi : i < nums (lens L)), (vecs L)[i]? = some (vecD L (digs (lens L) i))
  | [], _, i, hi => by
    simp only [lens, List.map_nil, nums] at hi
    obtain rfl : i = 0 := by omega
    rfl
  | l :: r, h, i, hi => by
    have hr : ∀ n ∈ lens r, 0 < n := fun n hn => h n (List.mem_cons_of_mem _ hn)
    have hp := nums_pos hr
    have key : ∀ (q : List Int) (i : Nat), i < q.length * nums (lens r) → (q.flatMap fun v => (vecs r).map (v :: ·))[i]? = some (q.getD (i / nums (lens r)) 0 :: vecD r (digs (lens r) (i % nums (lens r)))) := by
      intro q
      induction q with
      | nil => intro i hi; simp at hi
      | cons x q ih =>
        intro i hi
        rw [List.flatMap_cons]
        by_cases hlt : i < nums (lens r)
        · rw [List.getElem?_append_left (by rw [List.length_map, vecs_len]; exact hlt), List.getElem?_map, vecs_at r hr i hlt, Nat.div_eq_of_lt hlt, Nat.mod_eq_of_lt hlt]
          rfl
        · have hge : nums (lens r) ≤ i := by omega
          rw [List.getElem?_append_right (by rw [List.length_map, vecs_len]; exact hge), List.length_map, vecs_len, ih (i - nums (lens r)) (by rw [List.length_cons, Nat.succ_mul] at hi; omega)]
          have e1 : i / nums (lens r) = (i - nums (lens r)) / nums (lens r) + 1 := by
            rw [Nat.div_eq_sub_div hp hge]
          have e2 : i % nums (lens r) = (i - nums (lens r)) % nums (lens r) := by rw [Nat.mod_eq_sub_mod hge]
          rw [e1, e2]
          rfl
    show (l.flatMap fun v => (vecs r).map (v :: ·))[i]? = some (vecD (l :: r) (digs (l.length :: lens r) i))
    rw [digs, vecD_cons, key l i (by exact hi)]
/-- The next digits: from the last one. -/
def nextD : List Nat → List Nat → Bool × List Nat
  | n :: r, a :: d => match nextD r d with
    | (true, d') => (true, a :: d')
    | (false, d') => if a + 1 < n then (true, (a + 1) :: d') else (false, 0 :: d')
  | _, _ => (false, [])
theorem nextD_last : ∀ (l : List Nat), (∀ n ∈ l, 0 < n) → nextD l (digs l (nums l - 1)) = (false, digs l 0)
  | [], _ => rfl
  | n :: r, h => by
    have hr : ∀ x ∈ r, 0 < x := fun x hx => h x (List.mem_cons_of_mem _ hx)
    have hp := nums_pos hr
    have hn := h n (List.mem_cons_self ..)
    have e1 : (n * nums r - 1) / nums r = n - 1 := by
      obtain ⟨k, rfl⟩ : ∃ k, n = k + 1 := ⟨n - 1, by omega⟩
      rw [Nat.succ_mul, Nat.add_sub_assoc (by omega), Nat.mul_comm, Nat.mul_add_div hp, Nat.div_eq_of_lt (by omega)]
      omega
    have e2 : (n * nums r - 1) % nums r = nums r - 1 := by
      obtain ⟨k, rfl⟩ : ∃ k, n = k + 1 := ⟨n - 1, by omega⟩
      rw [Nat.succ_mul, Nat.add_sub_assoc (by omega), Nat.mul_comm, Nat.mul_add_mod, Nat.mod_eq_of_lt (by omega)]
    show nextD (n :: r) ((n * nums r - 1) / nums r :: digs r ((n * nums r - 1) % nums r)) = _
    rw [e1, e2, nextD, nextD_last r hr]
    simp only
    rw [if_neg (by omega), digs, Nat.zero_div, Nat.zero_mod]
theorem nextD_step : ∀ (l : List Nat), (∀ n ∈ l, 0 < n) → ∀ i, i + 1 < nums l → nextD l (digs l i) = (true, digs l (i + 1))
  | [], _, i, hi => by simp [nums] at hi
  | n :: r, h, i, hi => by
    have hr : ∀ x ∈ r, 0 < x := fun x hx => h x (List.mem_cons_of_mem _ hx)
    have hp := nums_pos hr
    show nextD (n :: r) (i / nums r :: digs r (i % nums r)) = _
    have hdm := Nat.div_add_mod i (nums r)
    have hml := Nat.mod_lt i hp
    by_cases hlt : i % nums r + 1 < nums r
    · rw [nextD, nextD_step r hr _ hlt]
      have e : i + 1 = nums r * (i / nums r) + (i % nums r + 1) := by omega
      have e1 : (i + 1) / nums r = i / nums r := by rw [e, Nat.mul_add_div hp, Nat.div_eq_of_lt hlt, Nat.add_zero]
      have e2 : (i + 1) % nums r = i % nums r + 1 := by rw [e, Nat.mul_add_mod, Nat.mod_eq_of_lt hlt]
      simp only [digs, e1, e2]
    · have hw : i % nums r = nums r - 1 := by omega
      have e : i + 1 = nums r * (i / nums r + 1) := by rw [Nat.mul_succ]; omega
      have e1 : (i + 1) / nums r = i / nums r + 1 := by rw [e, Nat.mul_div_cancel_left _ hp]
      have e2 : (i + 1) % nums r = 0 := by rw [e, Nat.mul_mod_right]
      have hn : i / nums r + 1 < n := by
        rw [← e1]
        exact (Nat.div_lt_iff_lt_mul hp).2 (by rw [nums] at hi; exact hi)
      rw [nextD, hw, nextD_last r hr]
      simp only [digs, e1, e2, hn, if_true]
end Go.Proofs.Ytijhbcmmoagdmaa

namespace Go.Proofs.Ytijhbcmmoagdmaa
open Go.RowKit Go.Shelf

attribute [local go_sem] Oper.semAt_some

theorem Kpt.fr {P : Nat → Prop} {A B : World} (h : Kpt P A B) : Fr P A B := ⟨h.size, h.blk⟩
def typL (lo hi : Int) (cs : List Int) : List Int := lo :: cs.filter (spanIn lo hi)
theorem typL_take {lo hi : Int} {cs : List Int} {k : Nat} (hk : k < cs.length) (h : spanIn lo hi cs[k] = true) : lo :: (cs.take (k + 1)).filter (spanIn lo hi) = (lo :: (cs.take k).filter (spanIn lo hi)) ++ [cs[k]] := by
  rw [List.take_succ_eq_append_getElem hk, List.filter_append]
  simp [h]
theorem typL_skip {lo hi : Int} {cs : List Int} {k : Nat} (hk : k < cs.length) (h : spanIn lo hi cs[k] = false) : lo :: (cs.take (k + 1)).filter (spanIn lo hi) = lo :: (cs.take k).filter (spanIn lo hi) := by
  rw [List.take_succ_eq_append_getElem hk, List.filter_append]
  simp [h]
theorem typL_pre (lo hi : Int) (cs : List Int) (k : Nat) : lo :: (cs.take k).filter (spanIn lo hi) <+: typL lo hi cs := by
  obtain ⟨t, ht⟩ := (List.take_prefix k cs).filter (spanIn lo hi)
  exact ⟨t, by rw [typL, List.cons_append, ht]⟩
theorem typL_len (lo hi : Int) (cs : List Int) (k : Nat) (hk : k < cs.length) : (lo :: (cs.take k).filter (spanIn lo hi)).length < cs.length + 1 := by
  have := List.length_filter_le (spanIn lo hi) (cs.take k)
  rw [List.length_take] at this
  rw [List.length_cons]
  omega

set_option maxRecDepth 100000 in
set_option maxHeartbeats 4000000 in
theorem typical1_in (n : Nat) (hn : 1 ≤ n) (l sb cb : Nat) (lo hi : Int) (A : Option Addr) (c : Nat) (cs : List Int) (hcs : cs.length ≤ 1000) (Q : Nat → Prop) (hsb : Q sb) (hcb : Q cb) (J Jx : List Int → World → Prop)
    (hY : ∀ pre x W, J pre W → pre.length < cs.length + 1 → YieldAt Fence.wide (n - 1) Try.prog l #[.int .i64 x] W fun e W' =>
      (e = .returned (.bool true) ∧ J (pre ++ [x]) W' ∧ Kpt Q W W') ∨ (e = .returned (.bool false) ∧ Jx (pre ++ [x]) W'))
    (W : World) (k1 : Blk W sb #[.int .i64 lo, .int .i64 hi] 45) (k2 : Blk W cb #[.slice A cs.length c] 26) (hA : FlatP 1 intC W Q A cs) (h0 : J [] W) :
    CallsIn Fence.wide n Try.prog 70 #[.func (.yield l) #[] #[], .pointer (some ⟨sb, 0, none⟩), .pointer (some ⟨cb, 0, none⟩)] W fun e W' => (∃ v, e = .returned v) ∧
      ((∃ ys, ys = typL lo hi cs ∧ J ys W') ∨ (∃ pre, pre <+: typL lo hi cs ∧ Jx pre W')) := by
  have k1c := k1.cell
  refine callsIn_of_wp Try.func70 rfl trivial ?_ rfl
  simp only [Try.ntmps70, List.size_toArray, List.length_cons, List.length_nil, Nat.reduceAdd, Nat.reduceSub, Array.replicate_succ, Array.replicate_zero, List.push_toArray, List.append_toArray, List.nil_append, List.cons_append]
  obtain ⟨fn, tmps, assign, body, hy, hR⟩ := hY [] lo W h0 (by simp)
  gi_wp2
  refine hR.mono ?_
  rintro e W1 (⟨rfl, hJ1, hk1⟩ | ⟨rfl, hJx1⟩)
  · have k1w : Blk W1 sb #[.int .i64 lo, .int .i64 hi] 45 := (hk1.blk _ k1.lt hsb).trans k1
    have k2w : Blk W1 cb #[.slice A cs.length c] 26 := (hk1.blk _ k2.lt hcb).trans k2
    have k2c := k2w.cell
    have hAw := hA.move hk1.fr
    clear hR hy k1c k1 k2 hA
    gi_wp2
    gi_loopw [13] (fun ii wr => ∃ k : Nat, k ≤ cs.length ∧ ii = .int .i64 k ∧ J (lo :: (cs.take k).filter (spanIn lo hi)) wr ∧ Kpt Q W1 wr) (fun ii _ => cs.length - (vInt ii).toNat)
    case atStart => exact ⟨0, Nat.zero_le _, rfl, hJ1, Kpt.refl _ _⟩
    case round =>
      obtain ⟨k, hk, rfl, hJs, hkk⟩ := hrel
      have k1r : Blk wr sb #[.int .i64 lo, .int .i64 hi] 45 := (hkk.blk _ k1w.lt hsb).trans k1w
      have k1c := k1r.cell
      by_cases hlt : k < cs.length
      · have hil : (k : Int) < (cs.length : Int) := by omega
        obtain ⟨b, off, rfl, hb, hP, hc⟩ := hAw.move hkk.fr k hlt
        have hc0 : wr.cell? ⟨b, off + k, none⟩ = some (.int .i64 cs[k]) := by have := hc 0 (by omega); simpa [intC] using this
        have hlen := typL_len lo hi cs k hlt
        have hk1 : k + 1 ≤ cs.length := hlt
        cases hin : spanIn lo hi cs[k] with
        | true =>
          have htk := typL_take hlt hin
          have hz : lo < cs[k] ∧ cs[k] ≤ hi := by simpa [spanIn] using hin
          obtain ⟨hz1, hz2⟩ := hz
          clear hc hin
          generalize cs[k] = z at *
          obtain ⟨fn, tmps, assign, body, hy, hR⟩ := hY _ z wr hJs hlen
          gi_wp2
          refine hR.mono ?_
          rintro e W3 (⟨rfl, hJ3, hk3⟩ | ⟨rfl, hJx3⟩)
          · gi_wp2
            go_roundw
            case rel => exact ⟨k + 1, hk1, by go_num, by rw [htk]; exact hJ3, hkk.trans hk3⟩
            case measure => simp [vInt]; omega
          · gi_wp2
            refine bodyPost_ret (results_none rfl _ _ _) rfl ?_
            exact ⟨⟨_, rfl⟩, .inr ⟨_, by rw [← htk]; exact typL_pre lo hi cs (k + 1), hJx3⟩⟩
        | false =>
          have htk := typL_skip hlt hin
          have hz : ¬ (lo < cs[k] ∧ cs[k] ≤ hi) := by simpa [spanIn] using hin
          clear hc hin
          generalize cs[k] = z at *
          by_cases hz1 : lo < z
          · have hz2 : ¬ z ≤ hi := fun h => hz ⟨hz1, h⟩
            gi_wp2
            refine ⟨fun _ h => (by cases h), ?_⟩
            gi_wp2
            go_roundw
            case rel => exact ⟨k + 1, hk1, by go_num, by rw [htk]; exact hJs, hkk⟩
            case measure => simp [vInt]; omega
          · gi_wp2
            refine ⟨fun _ h => (by cases h), ?_⟩
            gi_wp2
            go_roundw
            case rel => exact ⟨k + 1, hk1, by go_num, by rw [htk]; exact hJs, hkk⟩
            case measure => simp [vInt]; omega
      · have hil : ¬ (k : Int) < (cs.length : Int) := by omega
        obtain rfl : k = cs.length := by omega
        gi_wp2
        go_end0
        exact ⟨⟨_, rfl⟩, .inl (by rw [List.take_length] at hJs; exact hJs)⟩
  · gi_wp2
    refine bodyPost_ret (results_none rfl _ _ _) rfl ?_
    exact ⟨⟨_, rfl⟩, .inr ⟨_, typL_pre lo hi cs 0, hJx1⟩⟩
end Go.Proofs.Ytijhbcmmoagdmaa

namespace Go.Proofs.Ytijhbcmmoagdmaa
open Go.RowKit Go.Maps

def scN (m : Mdl) (x : List Int) : Int := if forE m x = 0 then scoreM m x else 0
def scY (m : Mdl) (x : List Int) : Bool := if forE m x = 0 then decide (1000 * m.need ≤ scoreM m x) else false
def ptL (m : Mdl) (x : List Int) : List Int := if forE m x = 0 then ptsL m x else []
theorem forE_zero {m : Mdl} {x : List Int} (h : forE m x = 0) : mdlB m = true ∧ valsB m.traits x = true := by
  unfold forE at h
  by_cases h1 : mdlB m = true
  · rw [if_pos h1] at h
    by_cases h2 : valsB m.traits x = true
    · exact ⟨h1, h2⟩
    · rw [if_neg h2] at h; omega
  · rw [if_neg h1] at h; omega
theorem mdlB_parts {m : Mdl} (h : mdlB m = true) : (1 ≤ m.traits ∧ m.traits ≤ 5) ∧ (-1000000 ≤ m.need ∧ m.need ≤ 1000000) ∧ m.cards.length ≤ 2 ∧ m.trees.length ≤ 2 ∧ (∀ c ∈ m.cards, crdB m.traits c = true) ∧ ∀ t ∈ m.trees, treB m.traits t = true := by
  unfold mdlB at h
  simp only [Bool.and_eq_true, decide_eq_true_eq, List.all_eq_true] at h
  exact ⟨inN_iff.1 h.1.1.1.1.1, ptB_iff.1 h.1.1.1.1.2, h.1.1.1.2, h.1.1.2, h.1.2, h.2⟩
theorem valsB_len {traits : Int} {x : List Int} (h : valsB traits x = true) : (x.length : Int) = traits := by
  unfold valsB at h
  simp only [Bool.and_eq_true, decide_eq_true_eq] at h
  exact h.1
theorem scoreM_bound {m : Mdl} {x : List Int} (h : mdlB m = true) (hv : valsB m.traits x = true) (hxl : x.length ≤ 10) : -44000000000 ≤ scoreM m x ∧ scoreM m x ≤ 44000000000 := by
  obtain ⟨_, _, h3, h4, h5, h6⟩ := mdlB_parts h
  have hl := valsB_len hv
  have := sumL_bound (prodL m x) (fun z hz => by
    unfold prodL at hz
    rcases List.mem_append.1 hz with hz | hz
    · obtain ⟨q, hq, rfl⟩ := List.mem_map.1 hz
      have h7 := h5 q hq
      rw [← hl] at h7
      exact mul_bound (crdB_parts h7).1 (onCrd_bound h7 hxl)
    · obtain ⟨q, hq, rfl⟩ := List.mem_map.1 hz
      have h7 := h6 q hq
      rw [← hl] at h7
      have := onTre_bound h7
      exact mul_bound (treB_parts h7).1 (by omega))
  have hlen : (prodL m x).length = m.cards.length + m.trees.length := by unfold prodL; simp
  rw [hlen] at this
  rw [scoreM_eq]
  omega

set_option maxRecDepth 100000 in
set_option maxHeartbeats 8000000 in
theorem scoreR_all (traits need : Int) (cl : List CrdD) (tl : List TreD) (C T : Option Addr) (c t : Nat) (x : List Int) (A : Option Addr) (a : Nat) (w : World) (h : MdlAt w w.heap.size ⟨traits, cl, C, c, tl, T, t, need⟩) (hls : MdlLe ⟨traits, cl, C, c, tl, T, t, need⟩) (hx : IntsAt w w.heap.size A x) (hxl : x.length ≤ 10) :
    Calls Try.prog 8 #[.agg #[.int .i64 traits, .slice C cl.length c, .slice T tl.length t, .int .i64 need], .slice A x.length a] w fun e w' => e = .returned (.tuple #[.int .i64 (scN ⟨traits, cl.map CrdD.v, tl.map TreD.v, need⟩ x), .bool (scY ⟨traits, cl.map CrdD.v, tl.map TreD.v, need⟩ x), .int .i64 (forE ⟨traits, cl.map CrdD.v, tl.map TreD.v, need⟩ x)]) ∧ Below w.heap.size w w' := by
  have b1 := (Below.refl w.heap.size w).alloc (Nat.le_refl _) (.cells #[.int .i64 traits, .slice C cl.length c, .slice T tl.length t, .int .i64 need] 25)
  have k1 := Blk.new w #[.int .i64 traits, .slice C cl.length c, .slice T tl.length t, .int .i64 need] 25
  have g1 := k1.lt
  have k1c := k1.cell
  have b1s := b1.size
  have HC := Lib.hid (check6_all traits need cl tl C T c t _ (h.later b1) hls)
  have HVa := Lib.hid (fun W hb => values6_any traits (.slice C cl.length c) (.slice T tl.length t) (.int .i64 need) x A a W (hx.later (w' := W) hb) hxl)
  cases q1 : mdlB ⟨traits, cl.map CrdD.v, tl.map TreD.v, need⟩ with
  | false =>
    have hf : mdlE ⟨traits, cl.map CrdD.v, tl.map TreD.v, need⟩ = 60 := by unfold mdlE; rw [if_neg (by rw [q1]; simp)]
    have hE : forE ⟨traits, cl.map CrdD.v, tl.map TreD.v, need⟩ x = 60 := by unfold forE; rw [if_neg (by rw [q1]; simp)]
    have HR : Hid (scN ⟨traits, cl.map CrdD.v, tl.map TreD.v, need⟩ x = 0 ∧ scY ⟨traits, cl.map CrdD.v, tl.map TreD.v, need⟩ x = false ∧ forE ⟨traits, cl.map CrdD.v, tl.map TreD.v, need⟩ x = 60) := Lib.hid ⟨by unfold scN; rw [hE]; rfl, by unfold scY; rw [hE]; rfl, hE⟩
    rw [hf] at HC
    clear h hls hx hf q1 HVa hE
    generalize scN ⟨traits, cl.map CrdD.v, tl.map TreD.v, need⟩ x = rn at *
    generalize scY ⟨traits, cl.map CrdD.v, tl.map TreD.v, need⟩ x = ry at *
    generalize forE ⟨traits, cl.map CrdD.v, tl.map TreD.v, need⟩ x = re at *
    go_enter Try.func8, Try.ntmps8
    go_wp2_with (go_at_call 12; (with_reducible refine (HC.out).mono ?_); rintro e w2 ⟨rfl, h2⟩)
    go_ret3
    exact ⟨by rw [HR.out.1, HR.out.2.1, HR.out.2.2]; rfl, b1.trans (h2.mono b1s)⟩
  | true =>
    have hf : mdlE ⟨traits, cl.map CrdD.v, tl.map TreD.v, need⟩ = 0 := by unfold mdlE; rw [if_pos q1]
    rw [hf] at HC
    cases q2 : valsB traits x with
    | false =>
      have hE : forE ⟨traits, cl.map CrdD.v, tl.map TreD.v, need⟩ x = 61 := by unfold forE; rw [if_pos q1, if_neg (by show ¬ valsB traits x = true; rw [q2]; simp)]
      have HR : Hid (scN ⟨traits, cl.map CrdD.v, tl.map TreD.v, need⟩ x = 0 ∧ scY ⟨traits, cl.map CrdD.v, tl.map TreD.v, need⟩ x = false ∧ forE ⟨traits, cl.map CrdD.v, tl.map TreD.v, need⟩ x = 61) := Lib.hid ⟨by unfold scN; rw [hE]; rfl, by unfold scY; rw [hE]; rfl, hE⟩
      rw [q2] at HVa
      clear h hls hx hf q1 q2 hE
      generalize scN ⟨traits, cl.map CrdD.v, tl.map TreD.v, need⟩ x = rn at *
      generalize scY ⟨traits, cl.map CrdD.v, tl.map TreD.v, need⟩ x = ry at *
      generalize forE ⟨traits, cl.map CrdD.v, tl.map TreD.v, need⟩ x = re at *
      go_enter Try.func8, Try.ntmps8
      go_wp2_with (first
        | (go_at_call 12; (with_reducible refine (HC.out).mono ?_); rintro e w2 ⟨rfl, h2⟩; have b2 := b1.trans (h2.mono b1s); have k2c := (k1.below h2 g1).cell)
        | (go_at_call 20; (with_reducible refine (HVa.out _ b2).mono ?_); rintro e w3 ⟨rfl, h3⟩))
      go_ret3
      exact ⟨by rw [HR.out.1, HR.out.2.1, HR.out.2.2]; rfl, b2.trans (h3.mono b2.size)⟩
    | true =>
      have hE : forE ⟨traits, cl.map CrdD.v, tl.map TreD.v, need⟩ x = 0 := by unfold forE; rw [if_pos q1]; exact if_pos q2
      have HR : Hid (scN ⟨traits, cl.map CrdD.v, tl.map TreD.v, need⟩ x = scoreM ⟨traits, cl.map CrdD.v, tl.map TreD.v, need⟩ x ∧ scY ⟨traits, cl.map CrdD.v, tl.map TreD.v, need⟩ x = decide (1000 * need ≤ scoreM ⟨traits, cl.map CrdD.v, tl.map TreD.v, need⟩ x) ∧ forE ⟨traits, cl.map CrdD.v, tl.map TreD.v, need⟩ x = 0) := Lib.hid ⟨by unfold scN; rw [hE]; rfl, by unfold scY; rw [hE]; rfl, hE⟩
      obtain ⟨_, hnd, p3, p4, p5, p6⟩ := mdlB_parts q1
      have hl := valsB_len q2
      have hsb := scoreM_bound q1 q2 hxl
      have HS := Lib.hid (fun W hb => score6_all traits need cl tl C T c t x A a W (h.later (w' := W) hb) (hx.later hb) (fun y hy => by rw [hl]; exact p5 _ (List.mem_map_of_mem hy)) (fun y hy => by rw [hl]; exact p6 _ (List.mem_map_of_mem hy)) hls.cards hls.trees hxl)
      rw [q2] at HVa
      have hw : IntKind.i64.wrap (1000 * need) = 1000 * need := IntWalk.i64_in _ (by have := hnd; simp only at this; omega)
      clear h hls hx hf q1 q2 hE hnd p3 p4 p5 p6 hl
      generalize scN ⟨traits, cl.map CrdD.v, tl.map TreD.v, need⟩ x = rn at *
      generalize scY ⟨traits, cl.map CrdD.v, tl.map TreD.v, need⟩ x = ry at *
      generalize forE ⟨traits, cl.map CrdD.v, tl.map TreD.v, need⟩ x = re at *
      generalize scoreM ⟨traits, cl.map CrdD.v, tl.map TreD.v, need⟩ x = sc at *
      go_enter Try.func8, Try.ntmps8
      go_upto_region 7 with (first
        | (go_at_call 12; (with_reducible refine (HC.out).mono ?_); rintro e w2 ⟨rfl, h2⟩; have b2 := b1.trans (h2.mono b1s); have k2 := k1.below h2 g1; have k2c := k2.cell)
        | (go_at_call 20; (with_reducible refine (HVa.out _ b2).mono ?_); rintro e w3 ⟨rfl, h3⟩; have b3 := b2.trans (h3.mono b2.size); have k3 := k2.below h3 k2.lt; have k3c := k3.cell)
        | (go_at_call 21; (with_reducible refine (HS.out _ b3).mono ?_); rintro e w4 ⟨rfl, h4⟩; have b4 := b3.trans (h4.mono b3.size); have k4 := k3.below h4 k3.lt))
      have k4a := After.cells (B := w4.heap.size) k4.cell k4.lt
      by_cases hy : 1000 * need ≤ sc
      · have HY : Hid (ry = true) := Lib.hid (by rw [HR.out.2.1, decide_eq_true hy])
        refine wp_region_class_lit (C := fun w' => ∃ z : After w4.heap.size w4, w' = z.val) (by kernel_rfl) (by kernel_rfl) ⟨⟨_, (Below.refl _ _).drew⟩, rfl⟩ ?_
        repeat (go_big_quiet_step (fail))
        refine wpQuiet_nil ?_
        intro wq hw'
        obtain ⟨⟨wz, hz⟩, hw''⟩ := hw'
        dsimp only at hw''
        subst hw''
        go_wp2_with fail
        go_ret3
        exact ⟨by rw [HR.out.1, HY.out, HR.out.2.2]; rfl, b4.trans (hz.mono b4.size)⟩
      · have HY : Hid (ry = false) := Lib.hid (by rw [HR.out.2.1, decide_eq_false hy])
        refine wp_region_class_lit (C := fun w' => ∃ z : After w4.heap.size w4, w' = z.val) (by kernel_rfl) (by kernel_rfl) ⟨⟨_, (Below.refl _ _).drew⟩, rfl⟩ ?_
        repeat (go_big_quiet_step (fail))
        refine wpQuiet_nil ?_
        intro wq hw'
        obtain ⟨⟨wz, hz⟩, hw''⟩ := hw'
        dsimp only at hw''
        subst hw''
        go_wp2_with fail
        go_ret3
        exact ⟨by rw [HR.out.1, HY.out, HR.out.2.2]; rfl, b4.trans (hz.mono b4.size)⟩

set_option maxRecDepth 100000 in
set_option maxHeartbeats 8000000 in
theorem pointsR_all (traits need : Int) (cl : List CrdD) (tl : List TreD) (C T : Option Addr) (c t : Nat) (x : List Int) (A : Option Addr) (a : Nat) (w : World) (h : MdlAt w w.heap.size ⟨traits, cl, C, c, tl, T, t, need⟩) (hls : MdlLe ⟨traits, cl, C, c, tl, T, t, need⟩) (hx : IntsAt w w.heap.size A x) (hxl : x.length ≤ 10) :
    Calls Try.prog 10 #[.agg #[.int .i64 traits, .slice C cl.length c, .slice T tl.length t, .int .i64 need], .slice A x.length a] w fun e w' => ∃ A' c', e = .returned (.tuple #[.slice A' (ptL ⟨traits, cl.map CrdD.v, tl.map TreD.v, need⟩ x).length c', .int .i64 (forE ⟨traits, cl.map CrdD.v, tl.map TreD.v, need⟩ x)]) ∧ w'.ownsRow w.heap.size 3 1 (.slice A' (ptL ⟨traits, cl.map CrdD.v, tl.map TreD.v, need⟩ x).length c') (ptL ⟨traits, cl.map CrdD.v, tl.map TreD.v, need⟩ x).length ((ptL ⟨traits, cl.map CrdD.v, tl.map TreD.v, need⟩ x).flatMap intC) ∧ Below w.heap.size w w' := by
  have b1 := (Below.refl w.heap.size w).alloc (Nat.le_refl _) (.cells #[.int .i64 traits, .slice C cl.length c, .slice T tl.length t, .int .i64 need] 25)
  have k1 := Blk.new w #[.int .i64 traits, .slice C cl.length c, .slice T tl.length t, .int .i64 need] 25
  have g1 := k1.lt
  have k1c := k1.cell
  have b1s := b1.size
  have HC := Lib.hid (check6_all traits need cl tl C T c t _ (h.later b1) hls)
  have HVa := Lib.hid (fun W hb => values6_any traits (.slice C cl.length c) (.slice T tl.length t) (.int .i64 need) x A a W (hx.later (w' := W) hb) hxl)
  cases q1 : mdlB ⟨traits, cl.map CrdD.v, tl.map TreD.v, need⟩ with
  | false =>
    have hf : mdlE ⟨traits, cl.map CrdD.v, tl.map TreD.v, need⟩ = 60 := by unfold mdlE; rw [if_neg (by rw [q1]; simp)]
    have hE : forE ⟨traits, cl.map CrdD.v, tl.map TreD.v, need⟩ x = 60 := by unfold forE; rw [if_neg (by rw [q1]; simp)]
    have hR : ptL ⟨traits, cl.map CrdD.v, tl.map TreD.v, need⟩ x = [] := by unfold ptL; rw [hE]; rfl
    rw [hf] at HC
    rw [hR, hE]
    clear h hls hx hf q1 HVa hE hR
    go_enter Try.func10, Try.ntmps10
    go_wp2_with (go_at_call 12; (with_reducible refine (HC.out).mono ?_); rintro e w2 ⟨rfl, h2⟩)
    go_ret2
    exact ⟨none, 0, rfl, World.ownsRow_nil _ _ _ _, b1.trans (h2.mono b1s)⟩
  | true =>
    have hf : mdlE ⟨traits, cl.map CrdD.v, tl.map TreD.v, need⟩ = 0 := by unfold mdlE; rw [if_pos q1]
    rw [hf] at HC
    cases q2 : valsB traits x with
    | false =>
      have hE : forE ⟨traits, cl.map CrdD.v, tl.map TreD.v, need⟩ x = 61 := by unfold forE; rw [if_pos q1, if_neg (by show ¬ valsB traits x = true; rw [q2]; simp)]
      have hR : ptL ⟨traits, cl.map CrdD.v, tl.map TreD.v, need⟩ x = [] := by unfold ptL; rw [hE]; rfl
      rw [q2] at HVa
      rw [hR, hE]
      clear h hls hx hf q1 q2 hE hR
      go_enter Try.func10, Try.ntmps10
      go_wp2_with (first
        | (go_at_call 12; (with_reducible refine (HC.out).mono ?_); rintro e w2 ⟨rfl, h2⟩; have b2 := b1.trans (h2.mono b1s); have k2c := (k1.below h2 g1).cell)
        | (go_at_call 20; (with_reducible refine (HVa.out _ b2).mono ?_); rintro e w3 ⟨rfl, h3⟩))
      go_ret2
      exact ⟨none, 0, rfl, World.ownsRow_nil _ _ _ _, b2.trans (h3.mono b2.size)⟩
    | true =>
      have hE : forE ⟨traits, cl.map CrdD.v, tl.map TreD.v, need⟩ x = 0 := by unfold forE; rw [if_pos q1]; exact if_pos q2
      have hR : ptL ⟨traits, cl.map CrdD.v, tl.map TreD.v, need⟩ x = ptsL ⟨traits, cl.map CrdD.v, tl.map TreD.v, need⟩ x := by unfold ptL; rw [if_pos hE]
      obtain ⟨_, hnd, p3, p4, p5, p6⟩ := mdlB_parts q1
      have hl := valsB_len q2
      have HS := Lib.hid (fun W hb => all6_all traits need cl tl C T c t x A a W (h.later (w' := W) hb) (hx.later hb) (fun y hy => by rw [hl]; exact p5 _ (List.mem_map_of_mem hy)) (fun y hy => by rw [hl]; exact p6 _ (List.mem_map_of_mem hy)) hls.cards hls.trees hxl)
      rw [q2] at HVa
      rw [hR, hE]
      clear h hls hx hf q1 q2 hE hnd p3 p4 p5 p6 hl hR
      generalize ptsL ⟨traits, cl.map CrdD.v, tl.map TreD.v, need⟩ x = L at *
      go_enter Try.func10, Try.ntmps10
      go_wp2_with (first
        | (go_at_call 12; (with_reducible refine (HC.out).mono ?_); rintro e w2 ⟨rfl, h2⟩; have b2 := b1.trans (h2.mono b1s); have k2 := k1.below h2 g1; have k2c := k2.cell)
        | (go_at_call 20; (with_reducible refine (HVa.out _ b2).mono ?_); rintro e w3 ⟨rfl, h3⟩; have b3 := b2.trans (h3.mono b2.size); have k3 := k2.below h3 k2.lt; have k3c := k3.cell)
        | (go_at_call 23; (with_reducible refine (HS.out _ b3).mono ?_); rintro e w4 ⟨A4, c4, rfl, hown, h4⟩))
      go_ret2
      exact ⟨A4, c4, rfl, own_base hown b3.size, b3.trans (h4.mono b3.size)⟩

end Go.Proofs.Ytijhbcmmoagdmaa

namespace Go.Proofs.Ytijhbcmmoagdmaa
open Go.RowKit Go.Maps

theorem cardUp_sum (l : List SclD) (x : List Int) : ∀ i, i ≤ l.length → sumL ((cardUp l i).map (onPart x)) = sclsUp (l.map SclD.v) x i
  | 0, _ => by simp [cardUp, sclsUp, sumL]
  | i + 1, hi => by
    have h1 := cardUp_sum l x i (by omega)
    unfold cardUp at h1 ⊢
    rw [List.range_succ, List.map_append, List.map_append, List.map_singleton, List.map_singleton, sumL_snoc, h1, sclsUp]
    congr 1
    rw [getD_lt l default (by omega), getD_lt (l.map SclD.v) default (by rw [List.length_map]; omega)]
    simp [onPart]
def corePts (x : List Int) (q : Int × Int × List PartD) : Int := q.2.1 + sumL (q.2.2.map (onPart x))
theorem corePts_card (x : List Int) (y : CrdD) : corePts x (crdCore y) = onCrd y.v x := by
  have := cardUp_sum y.scales x y.scales.length (Nat.le_refl _)
  unfold corePts crdCore onCrd
  show y.base + sumL ((cardUp y.scales y.scales.length).map (onPart x)) = y.base + sclsUp (y.scales.map SclD.v) x (y.scales.map SclD.v).length
  rw [this, List.length_map]
theorem corePts_tree (x : List Int) (y : TreD) : corePts x (treCore y) = onTre y.v x := by
  simp [corePts, treCore, sumL, onPart]
theorem sh_points {cl : List CrdD} {tl : List TreD} {sh : List ShD} (h : sh.map ShD.core = cl.map crdCore ++ tl.map treCore) (traits need : Int) (x : List Int) : sh.map (shPts x) = ptsL ⟨traits, cl.map CrdD.v, tl.map TreD.v, need⟩ x := by
  have e : sh.map (shPts x) = (sh.map ShD.core).map (corePts x) := by rw [List.map_map]; rfl
  rw [e, h, List.map_append, List.map_map, List.map_map]
  unfold ptsL
  simp only [List.map_map]
  congr 1
  · exact List.map_congr_left fun y _ => corePts_card x y
  · exact List.map_congr_left fun y _ => corePts_tree x y
theorem sh_score {cl : List CrdD} {tl : List TreD} {sh : List ShD} (h : sh.map ShD.core = cl.map crdCore ++ tl.map treCore) (traits need : Int) (x : List Int) : sumL (sh.map fun y => y.weight * shPts x y) = scoreM ⟨traits, cl.map CrdD.v, tl.map TreD.v, need⟩ x := by
  have e : (sh.map fun y => y.weight * shPts x y) = (sh.map ShD.core).map (fun q => q.1 * corePts x q) := by rw [List.map_map]; rfl
  rw [e, h, List.map_append, List.map_map, List.map_map]
  unfold scoreM
  simp only [List.map_map]
  congr 2
  · exact List.map_congr_left fun y _ => by show y.weight * corePts x (crdCore y) = _; rw [corePts_card]; rfl
  · exact List.map_congr_left fun y _ => by show y.v.weight * corePts x (treCore y) = _; rw [corePts_tree]; rfl
theorem sh_ok {traits need : Int} {cl : List CrdD} {tl : List TreD} {sh : List ShD} {x : List Int} (hq : mdlB ⟨traits, cl.map CrdD.v, tl.map TreD.v, need⟩ = true) (hx : (x.length : Int) = traits) (h : sh.map ShD.core = cl.map crdCore ++ tl.map treCore) : ∀ y ∈ sh, ShOk x.length y := fun y hy => by
  obtain ⟨h1, _, _, _, h5, h6⟩ := mdlB_parts hq
  rcases core_cases h y hy with ⟨z, hz, e1, e2, e3⟩ | ⟨z, hz, e1, e2, e3⟩
  · have h7 := crdB_parts (h5 _ (List.mem_map_of_mem hz))
    have h8 : (z.scales.length : Int) = traits := by have := h7.2.2.1; simpa [CrdD.v] using this
    refine ⟨by rw [e2]; exact h7.2.1, by rw [e1]; exact h7.1, by rw [e3, cardParts_len]; simp only at h1; omega, fun q hq2 => ?_⟩
    rw [e3] at hq2
    obtain ⟨s, k, hs, hk, rfl⟩ := cardParts_mem hq2
    exact ⟨h7.2.2.2 _ (List.mem_map_of_mem hs), by omega⟩
  · have h7 := h6 _ (List.mem_map_of_mem hz)
    refine ⟨by rw [e2]; decide, by rw [e1]; exact (treB_parts h7).1, by rw [e3]; simp, fun q hq2 => ?_⟩
    rw [e3, List.mem_singleton] at hq2
    subst hq2
    show treB x.length z.v = true
    rw [hx]; exact h7

set_option maxRecDepth 100000 in
set_option maxHeartbeats 4000000 in
theorem open_bad (traits need : Int) (cl : List CrdD) (tl : List TreD) (C T : Option Addr) (c t : Nat) (w : World) (h : MdlAt w w.heap.size ⟨traits, cl, C, c, tl, T, t, need⟩) (hls : MdlLe ⟨traits, cl, C, c, tl, T, t, need⟩) (hq : mdlB ⟨traits, cl.map CrdD.v, tl.map TreD.v, need⟩ = false) :
    Calls Try.prog 30 #[.agg #[.int .i64 traits, .slice C cl.length c, .slice T tl.length t, .int .i64 need]] w fun e w' => e = .returned (.tuple #[.agg #[.int .i64 0, .slice none 0 0, .slice none 0 0, .int .i64 0, .slice none 0 0], .int .i64 60]) ∧ Below w.heap.size w w' := by
  have b1 := (Below.refl w.heap.size w).alloc (Nat.le_refl _) (.cells #[.int .i64 traits, .slice C cl.length c, .slice T tl.length t, .int .i64 need] 25)
  have k1 := Blk.new w #[.int .i64 traits, .slice C cl.length c, .slice T tl.length t, .int .i64 need] 25
  have k1c := k1.cell
  have b1s := b1.size
  have HC := Lib.hid (fun W hb => checkP_any ⟨traits, cl, C, c, tl, T, t, need⟩ W (h.later (w' := W) hb) hls)
  have he : mdlE (MdlD.v ⟨traits, cl, C, c, tl, T, t, need⟩) = 60 := by unfold mdlE; exact if_neg (by show ¬ mdlB ⟨traits, cl.map CrdD.v, tl.map TreD.v, need⟩ = true; rw [hq]; simp)
  rw [he] at HC
  have b2 := b1.alloc b1s (.cells #[.int .i64 0, .slice none 0 0, .slice none 0 0, .int .i64 0, .slice none 0 0] 62)
  have k2 := k1.alloc (.cells #[.int .i64 0, .slice none 0 0, .slice none 0 0, .int .i64 0, .slice none 0 0] 62)
  have kr := newAt' (w.alloc (.cells #[.int .i64 traits, .slice C cl.length c, .slice T tl.length t, .int .i64 need] 25)) #[.int .i64 0, .slice none 0 0, .slice none 0 0, .int .i64 0, .slice none 0 0] 62 (g := w.heap.size + 1) (by simp)
  go_enter Try.func30, Try.ntmps30
  go_wp2_with fail
  generalize hW2 : (w.alloc (.cells #[.int .i64 traits, .slice C cl.length c, .slice T tl.length t, .int .i64 need] 25)).alloc (.cells #[.int .i64 0, .slice none 0 0, .slice none 0 0, .int .i64 0, .slice none 0 0] 62) = W2 at *
  have hs2 := kr.lt
  clear hW2 k1c k1 b1 b1s h
  have b2s := b2.size
  go_wp2_with (go_at_call 11; (with_reducible refine (HC.out _ b2).mono ?_); rintro e w5 ⟨rfl, h5⟩; have k5 := kr.below h5 hs2; have k5c := k5.cell; have z0 := k5.free 0; have z1 := k5.free 1; have z2 := k5.free 2; have z3 := k5.free 3; have z4 := k5.free 4)
  have hrc := (nod_put (c0 := .int .i64 0) (c1 := .slice none 0 0) (c2 := .slice none 0 0) (c3 := .int .i64 0) (c4 := .slice none 0 0) k5).cell
  exact bodyPost_ret (v := .tuple #[.agg #[.int .i64 0, .slice none 0 0, .slice none 0 0, .int .i64 0, .slice none 0 0], .int .i64 60]) (by simp [results, Try.results30, go_sem, hrc]) rfl ⟨rfl, ((((((b2.trans (h5.mono b2s)).setCell (p := ⟨w.heap.size + 1, 0, none⟩) (by simp) _).setCell (p := ⟨w.heap.size + 1, 1, none⟩) (by simp) _).setCell (p := ⟨w.heap.size + 1, 2, none⟩) (by simp) _).setCell (p := ⟨w.heap.size + 1, 3, none⟩) (by simp) _).setCell (p := ⟨w.heap.size + 1, 4, none⟩) (by simp) _)⟩

set_option maxRecDepth 100000 in
set_option maxHeartbeats 4000000 in
theorem openFor_bad (traits need : Int) (cl : List CrdD) (tl : List TreD) (C T : Option Addr) (c t : Nat) (x : List Int) (X : Option Addr) (xc : Nat) (w : World) (h : MdlAt w w.heap.size ⟨traits, cl, C, c, tl, T, t, need⟩) (hls : MdlLe ⟨traits, cl, C, c, tl, T, t, need⟩) (hq : mdlB ⟨traits, cl.map CrdD.v, tl.map TreD.v, need⟩ = false) :
    Calls Try.prog 17 #[.agg #[.int .i64 traits, .slice C cl.length c, .slice T tl.length t, .int .i64 need], .slice X x.length xc] w fun e w' => e = .returned (.tuple #[.agg #[.int .i64 0, .slice none 0 0, .slice none 0 0, .int .i64 0, .slice none 0 0], .int .i64 60]) ∧ Below w.heap.size w w' := by
  have b1 := (Below.refl w.heap.size w).alloc (Nat.le_refl _) (.cells #[.int .i64 traits, .slice C cl.length c, .slice T tl.length t, .int .i64 need] 25)
  have k1 := Blk.new w #[.int .i64 traits, .slice C cl.length c, .slice T tl.length t, .int .i64 need] 25
  have k1c := k1.cell
  have b1s := b1.size
  have b2 := b1.alloc b1s (.cells #[.int .i64 0, .slice none 0 0, .slice none 0 0, .int .i64 0, .slice none 0 0] 62)
  have k2 := k1.alloc (.cells #[.int .i64 0, .slice none 0 0, .slice none 0 0, .int .i64 0, .slice none 0 0] 62)
  have kr := newAt' (w.alloc (.cells #[.int .i64 traits, .slice C cl.length c, .slice T tl.length t, .int .i64 need] 25)) #[.int .i64 0, .slice none 0 0, .slice none 0 0, .int .i64 0, .slice none 0 0] 62 (g := w.heap.size + 1) (by simp)
  have HC := Lib.hid (fun W hb => open_bad traits need cl tl C T c t W (h.later (w' := W) hb) hls hq)
  go_enter Try.func17, Try.ntmps17
  go_wp2_with fail
  generalize hW2 : (w.alloc (.cells #[.int .i64 traits, .slice C cl.length c, .slice T tl.length t, .int .i64 need] 25)).alloc (.cells #[.int .i64 0, .slice none 0 0, .slice none 0 0, .int .i64 0, .slice none 0 0] 62) = W2 at *
  have hs2 := kr.lt
  clear hW2 k1c k1 b1 b1s h
  have b2s := b2.size
  go_wp2_with (go_at_call 30; (with_reducible refine (HC.out _ b2).mono ?_); rintro e w5 ⟨rfl, h5⟩; have b5 := b2.trans (h5.mono b2s); have k5 := (kr.below h5 hs2).alloc (.cells #[.int .i64 0, .slice none 0 0, .slice none 0 0, .int .i64 0, .slice none 0 0] 62); have k5c := k5.cell; have z0 := k5.free 0; have z1 := k5.free 1; have z2 := k5.free 2; have z3 := k5.free 3; have z4 := k5.free 4;)
  have hrc := (nod_put (c0 := .int .i64 0) (c1 := .slice none 0 0) (c2 := .slice none 0 0) (c3 := .int .i64 0) (c4 := .slice none 0 0) k5).cell
  exact bodyPost_ret (v := .tuple #[.agg #[.int .i64 0, .slice none 0 0, .slice none 0 0, .int .i64 0, .slice none 0 0], .int .i64 60]) (by simp [results, Try.results17, go_sem, hrc]) rfl ⟨rfl, (((((((b5.alloc b5.size (.cells #[.int .i64 0, .slice none 0 0, .slice none 0 0, .int .i64 0, .slice none 0 0] 62)).setCell (p := ⟨w.heap.size + 1, 0, none⟩) (by simp) _).setCell (p := ⟨w.heap.size + 1, 1, none⟩) (by simp) _).setCell (p := ⟨w.heap.size + 1, 2, none⟩) (by simp) _).setCell (p := ⟨w.heap.size + 1, 3, none⟩) (by simp) _).setCell (p := ⟨w.heap.size + 1, 4, none⟩) (by simp) _))⟩

set_option maxRecDepth 100000 in
set_option maxHeartbeats 4000000 in
theorem openFor_vals (traits need : Int) (cl : List CrdD) (tl : List TreD) (C T : Option Addr) (c t : Nat) (x : List Int) (X : Option Addr) (xc : Nat) (w : World) (h : MdlAt w w.heap.size ⟨traits, cl, C, c, tl, T, t, need⟩) (hls : MdlLe ⟨traits, cl, C, c, tl, T, t, need⟩) (hx : IntsAt w w.heap.size X x) (hxl : x.length ≤ 10) (hq : mdlB ⟨traits, cl.map CrdD.v, tl.map TreD.v, need⟩ = true) (hv : valsB traits x = false) :
    Calls Try.prog 17 #[.agg #[.int .i64 traits, .slice C cl.length c, .slice T tl.length t, .int .i64 need], .slice X x.length xc] w fun e w' => e = .returned (.tuple #[.agg #[.int .i64 0, .slice none 0 0, .slice none 0 0, .int .i64 0, .slice none 0 0], .int .i64 61]) ∧ Below w.heap.size w w' := by
  have b1 := (Below.refl w.heap.size w).alloc (Nat.le_refl _) (.cells #[.int .i64 traits, .slice C cl.length c, .slice T tl.length t, .int .i64 need] 25)
  have k1 := Blk.new w #[.int .i64 traits, .slice C cl.length c, .slice T tl.length t, .int .i64 need] 25
  have k1c := k1.cell
  have b1s := b1.size
  have b2 := b1.alloc b1s (.cells #[.int .i64 0, .slice none 0 0, .slice none 0 0, .int .i64 0, .slice none 0 0] 62)
  have k2 := k1.alloc (.cells #[.int .i64 0, .slice none 0 0, .slice none 0 0, .int .i64 0, .slice none 0 0] 62)
  have kr := newAt' (w.alloc (.cells #[.int .i64 traits, .slice C cl.length c, .slice T tl.length t, .int .i64 need] 25)) #[.int .i64 0, .slice none 0 0, .slice none 0 0, .int .i64 0, .slice none 0 0] 62 (g := w.heap.size + 1) (by simp)
  have HC := Lib.hid (fun W hb => open_all traits need cl tl C T c t W (h.later (w' := W) hb) hls hq)
  have HV := Lib.hid (fun (S : Option Addr) (n s : Nat) W hb => valuesV_any traits need C T S cl.length c tl.length t n s x X xc W (hx.later (w' := W) hb) hxl)
  rw [hv] at HV
  clear hx
  go_enter Try.func17, Try.ntmps17
  go_wp2_with fail
  generalize hW2 : (w.alloc (.cells #[.int .i64 traits, .slice C cl.length c, .slice T tl.length t, .int .i64 need] 25)).alloc (.cells #[.int .i64 0, .slice none 0 0, .slice none 0 0, .int .i64 0, .slice none 0 0] 62) = W2 at *
  have hs2 := kr.lt
  clear hW2 k1c k1 b1 b1s h
  have b2s := b2.size
  go_wp2_with (first
    | (go_at_call 30; (with_reducible refine (HC.out _ b2).mono ?_); rintro e w5 ⟨S, s, sh, rfl, _, _, h5⟩; have b5 := b2.trans (h5.mono b2s); have b5a := b5.alloc b5.size (.cells #[.int .i64 traits, .slice C cl.length c, .slice T tl.length t, .int .i64 need, .slice S (cl.length + tl.length) s] 62); have k5 := (kr.below h5 hs2).alloc (.cells #[.int .i64 traits, .slice C cl.length c, .slice T tl.length t, .int .i64 need, .slice S (cl.length + tl.length) s] 62); have k5c := k5.cell; have kw := Blk.new w5 #[.int .i64 traits, .slice C cl.length c, .slice T tl.length t, .int .i64 need, .slice S (cl.length + tl.length) s] 62; have kwc := kw.cell)
    | (go_at_call 35; (with_reducible refine (HV.out S (cl.length + tl.length) s _ b5a).mono ?_); rintro e w6 ⟨rfl, h6⟩; have b6 := b5a.trans (h6.mono b5a.size); have k6 := k5.below h6 k5.lt; have k6c := k6.cell; have z0 := k6.free 0; have z1 := k6.free 1; have z2 := k6.free 2; have z3 := k6.free 3; have z4 := k6.free 4;))
  have hrc := (nod_put (c0 := .int .i64 0) (c1 := .slice none 0 0) (c2 := .slice none 0 0) (c3 := .int .i64 0) (c4 := .slice none 0 0) k6).cell
  exact bodyPost_ret (v := .tuple #[.agg #[.int .i64 0, .slice none 0 0, .slice none 0 0, .int .i64 0, .slice none 0 0], .int .i64 61]) (by simp [results, Try.results17, go_sem, hrc]) rfl ⟨rfl, ((((((b6.setCell (p := ⟨w.heap.size + 1, 0, none⟩) (by simp) _).setCell (p := ⟨w.heap.size + 1, 1, none⟩) (by simp) _).setCell (p := ⟨w.heap.size + 1, 2, none⟩) (by simp) _).setCell (p := ⟨w.heap.size + 1, 3, none⟩) (by simp) _).setCell (p := ⟨w.heap.size + 1, 4, none⟩) (by simp) _))⟩

set_option maxRecDepth 100000 in
set_option maxHeartbeats 4000000 in
theorem openFor_good (traits need : Int) (cl : List CrdD) (tl : List TreD) (C T : Option Addr) (c t : Nat) (x : List Int) (X : Option Addr) (xc : Nat) (w : World) (h : MdlAt w w.heap.size ⟨traits, cl, C, c, tl, T, t, need⟩) (hls : MdlLe ⟨traits, cl, C, c, tl, T, t, need⟩) (hx : IntsAt w w.heap.size X x) (hxl : x.length ≤ 10) (hq : mdlB ⟨traits, cl.map CrdD.v, tl.map TreD.v, need⟩ = true) (hv : valsB traits x = true) :
    Calls Try.prog 17 #[.agg #[.int .i64 traits, .slice C cl.length c, .slice T tl.length t, .int .i64 need], .slice X x.length xc] w fun e w' => OpenS w traits need cl tl C T c t e w' := by
  have b1 := (Below.refl w.heap.size w).alloc (Nat.le_refl _) (.cells #[.int .i64 traits, .slice C cl.length c, .slice T tl.length t, .int .i64 need] 25)
  have k1 := Blk.new w #[.int .i64 traits, .slice C cl.length c, .slice T tl.length t, .int .i64 need] 25
  have k1c := k1.cell
  have b1s := b1.size
  have b2 := b1.alloc b1s (.cells #[.int .i64 0, .slice none 0 0, .slice none 0 0, .int .i64 0, .slice none 0 0] 62)
  have k2 := k1.alloc (.cells #[.int .i64 0, .slice none 0 0, .slice none 0 0, .int .i64 0, .slice none 0 0] 62)
  have kr := newAt' (w.alloc (.cells #[.int .i64 traits, .slice C cl.length c, .slice T tl.length t, .int .i64 need] 25)) #[.int .i64 0, .slice none 0 0, .slice none 0 0, .int .i64 0, .slice none 0 0] 62 (g := w.heap.size + 1) (by simp)
  have HC := Lib.hid (fun W hb => open_all traits need cl tl C T c t W (h.later (w' := W) hb) hls hq)
  have HV := Lib.hid (fun (S : Option Addr) (n s : Nat) W hb => valuesV_any traits need C T S cl.length c tl.length t n s x X xc W (hx.later (w' := W) hb) hxl)
  rw [hv] at HV
  clear hx
  go_enter Try.func17, Try.ntmps17
  go_wp2_with fail
  generalize hW2 : (w.alloc (.cells #[.int .i64 traits, .slice C cl.length c, .slice T tl.length t, .int .i64 need] 25)).alloc (.cells #[.int .i64 0, .slice none 0 0, .slice none 0 0, .int .i64 0, .slice none 0 0] 62) = W2 at *
  have hs2 := kr.lt
  clear hW2 k1c k1 b1 b1s h
  have b2s := b2.size
  go_wp2_with (first
    | (go_at_call 30; (with_reducible refine (HC.out _ b2).mono ?_); rintro e w5 ⟨S, s, sh, rfl, hco, hat, h5⟩; have HO := Lib.hid hco; have HA := Lib.hid hat; clear hco hat; have b5 := b2.trans (h5.mono b2s); have b5a := b5.alloc b5.size (.cells #[.int .i64 traits, .slice C cl.length c, .slice T tl.length t, .int .i64 need, .slice S (cl.length + tl.length) s] 62); have ba := (Below.refl w5.heap.size w5).alloc (Nat.le_refl _) (.cells #[.int .i64 traits, .slice C cl.length c, .slice T tl.length t, .int .i64 need, .slice S (cl.length + tl.length) s] 62); have k5 := (kr.below h5 hs2).alloc (.cells #[.int .i64 traits, .slice C cl.length c, .slice T tl.length t, .int .i64 need, .slice S (cl.length + tl.length) s] 62); have k5c := k5.cell; have kw := Blk.new w5 #[.int .i64 traits, .slice C cl.length c, .slice T tl.length t, .int .i64 need, .slice S (cl.length + tl.length) s] 62; have kwc := kw.cell)
    | (go_at_call 35; (with_reducible refine (HV.out S (cl.length + tl.length) s _ b5a).mono ?_); rintro e w6 ⟨rfl, h6⟩; have b6 := b5a.trans (h6.mono b5a.size); have k6 := k5.below h6 k5.lt; have k6c := k6.cell; have kw6 := (kw.below h6 kw.lt).cell; have z0 := k6.free 0; have z1 := k6.free 1; have z2 := k6.free 2; have z3 := k6.free 3; have z4 := k6.free 4;))
  have hrc := (nod_put (c0 := .int .i64 traits) (c1 := .slice C cl.length c) (c2 := .slice T tl.length t) (c3 := .int .i64 need) (c4 := .slice S (cl.length + tl.length) s) k6).cell
  have hbe := ((((((b6.setCell (p := ⟨w.heap.size + 1, 0, none⟩) (by simp) (.int .i64 traits)).setCell (p := ⟨w.heap.size + 1, 1, none⟩) (by simp) (.slice C cl.length c)).setCell (p := ⟨w.heap.size + 1, 2, none⟩) (by simp) (.slice T tl.length t)).setCell (p := ⟨w.heap.size + 1, 3, none⟩) (by simp) (.int .i64 need)).setCell (p := ⟨w.heap.size + 1, 4, none⟩) (by simp) (.slice S (cl.length + tl.length) s)))
  have hse := ((((((((HA.out.below ba).below h6).setCell (p := ⟨w.heap.size + 1, 0, none⟩) hs2 (.int .i64 traits)).setCell (p := ⟨w.heap.size + 1, 1, none⟩) hs2 (.slice C cl.length c)).setCell (p := ⟨w.heap.size + 1, 2, none⟩) hs2 (.slice T tl.length t)).setCell (p := ⟨w.heap.size + 1, 3, none⟩) hs2 (.int .i64 need)).setCell (p := ⟨w.heap.size + 1, 4, none⟩) hs2 (.slice S (cl.length + tl.length) s)))
  exact bodyPost_ret (v := .tuple #[.agg #[.int .i64 traits, .slice C cl.length c, .slice T tl.length t, .int .i64 need, .slice S (cl.length + tl.length) s], .int .i64 0]) (by simp [results, Try.results17, go_sem, hrc]) rfl ⟨S, s, sh, rfl, HO.out, hse.less b2s, hbe⟩
end Go.Proofs.Ytijhbcmmoagdmaa

namespace Go.Proofs.Ytijhbcmmoagdmaa
open Go.RowKit Go.Maps

theorem ShInv.len {w : World} {lo : Nat} {A : Option Addr} {c n : Nat} {l : List ShD} (h : ShInv w lo A c n l) : l.length = n := h.1
theorem scoreP_inv (traits need : Int) (C T S : Option Addr) (cl c tl t s n : Nat) (l : List ShD) (x : List Int) (X : Option Addr) (xc : Nat) (w : World) (hn : l.length = n) (h : SharesAt w w.heap.size S l) (hx : IntsAt w w.heap.size X x) (hok : ∀ y ∈ l, ShOk x.length y) (hl : n ≤ 10) (hxl : x.length ≤ 10) :
    Calls Try.prog 18 #[.agg #[.int .i64 traits, .slice C cl c, .slice T tl t, .int .i64 need, .slice S n s], .slice X x.length xc] w fun e w' => e = .returned (.int .i64 (sumL (l.map fun y => y.weight * shPts x y))) ∧ Below w.heap.size w w' := by
  subst hn; exact scoreP_any traits need C T S cl c tl t s l x X xc w h hx hok hl hxl
theorem pointsP_inv (traits need : Int) (C T S : Option Addr) (cl c tl t s n : Nat) (l : List ShD) (x : List Int) (X : Option Addr) (xc : Nat) (w : World) (hn : l.length = n) (h : SharesAt w w.heap.size S l) (hx : IntsAt w w.heap.size X x) (hok : ∀ y ∈ l, ShOk x.length y) (hl : n ≤ 10) (hxl : x.length ≤ 10) :
    Calls Try.prog 22 #[.agg #[.int .i64 traits, .slice C cl c, .slice T tl t, .int .i64 need, .slice S n s], .slice X x.length xc] w fun e w' => ∃ A' c', e = .returned (.slice A' n c') ∧ w'.ownsRow w.heap.size 3 1 (.slice A' n c') n ((l.map (shPts x)).flatMap intC) ∧ Below w.heap.size w w' := by
  subst hn; exact pointsP_any traits need C T S cl c tl t s l x X xc w h hx hok hl hxl

set_option maxRecDepth 100000 in
set_option maxHeartbeats 4000000 in
theorem scoreP_all (traits need : Int) (cl : List CrdD) (tl : List TreD) (C T : Option Addr) (c t : Nat) (x : List Int) (X : Option Addr) (xc : Nat) (w : World) (h : MdlAt w w.heap.size ⟨traits, cl, C, c, tl, T, t, need⟩) (hls : MdlLe ⟨traits, cl, C, c, tl, T, t, need⟩) (hx : IntsAt w w.heap.size X x) (hxl : x.length ≤ 10) :
    Calls Try.prog 7 #[.agg #[.int .i64 traits, .slice C cl.length c, .slice T tl.length t, .int .i64 need], .slice X x.length xc] w (fun e w' => e = .returned (.tuple #[.int .i64 (scN ⟨traits, cl.map CrdD.v, tl.map TreD.v, need⟩ x), .bool (scY ⟨traits, cl.map CrdD.v, tl.map TreD.v, need⟩ x), .int .i64 (forE ⟨traits, cl.map CrdD.v, tl.map TreD.v, need⟩ x)]) ∧ Below w.heap.size w w') := by
  have b1 := (Below.refl w.heap.size w).alloc (Nat.le_refl _) (.cells #[.int .i64 traits, .slice C cl.length c, .slice T tl.length t, .int .i64 need] 25)
  have k1 := Blk.new w #[.int .i64 traits, .slice C cl.length c, .slice T tl.length t, .int .i64 need] 25
  have k1c := k1.cell
  have b1s := b1.size
  by_cases q1 : mdlB ⟨traits, cl.map CrdD.v, tl.map TreD.v, need⟩ = true
  · by_cases q2 : valsB traits x = true
    · have hE : forE ⟨traits, cl.map CrdD.v, tl.map TreD.v, need⟩ x = 0 := by unfold forE; rw [if_pos q1]; exact if_pos q2
      have e1 : scN ⟨traits, cl.map CrdD.v, tl.map TreD.v, need⟩ x = scoreM ⟨traits, cl.map CrdD.v, tl.map TreD.v, need⟩ x := by unfold scN; rw [if_pos hE]
      have e2 : scY ⟨traits, cl.map CrdD.v, tl.map TreD.v, need⟩ x = decide (1000 * need ≤ scoreM ⟨traits, cl.map CrdD.v, tl.map TreD.v, need⟩ x) := by unfold scY; rw [if_pos hE]
      rw [e1, e2, hE]
      clear hE e1 e2
      obtain ⟨_, hnd, p3, p4, _, _⟩ := mdlB_parts q1
      have hl := valsB_len q2
      have HC := Lib.hid (fun W hb => openFor_good traits need cl tl C T c t x X xc W (h.later (w' := W) hb) hls (hx.later hb) hxl q1 q2)
      have hls6 : cl.length ≤ 2 := by simpa using p3
      have hls7 : tl.length ≤ 2 := by simpa using p4
      have HSh := Lib.hid (fun (sh : List ShD) (hco : sh.map ShD.core = cl.map crdCore ++ tl.map treCore) (S : Option Addr) (s lo : Nat) W (hi : ShInv W lo S s (cl.length + tl.length) sh) (hb : Below w.heap.size w W) => hi.at_ (fun y hy q hq => ((core_parts h hco y hy q hq).below hb).more hb.size))
      have HS := Lib.hid (fun (sh : List ShD) (hco : sh.map ShD.core = cl.map crdCore ++ tl.map treCore) (S : Option Addr) (s : Nat) W (hlen : sh.length = cl.length + tl.length) (hat : SharesAt W W.heap.size S sh) (hb : Below w.heap.size w W) => show Calls Try.prog 18 #[.agg #[.int .i64 traits, .slice C cl.length c, .slice T tl.length t, .int .i64 need, .slice S (cl.length + tl.length) s], .slice X x.length xc] W (fun e w' => e = .returned (.int .i64 (scoreM ⟨traits, cl.map CrdD.v, tl.map TreD.v, need⟩ x)) ∧ Below W.heap.size W w') from by rw [← sh_score hco traits need x]; exact scoreP_inv traits need C T S cl.length c tl.length t s (cl.length + tl.length) sh x X xc W hlen hat (hx.later hb) (sh_ok q1 hl hco) (by omega) hxl)
      have HY := Lib.hid (fun (S : Option Addr) (n s : Nat) (z : Int) W => yes_any traits need C T S cl.length c tl.length t n s z W hnd)
      clear h hx hls
      generalize scoreM ⟨traits, cl.map CrdD.v, tl.map TreD.v, need⟩ x = z at *
      go_enter Try.func7, Try.ntmps7
      go_wp2_with (first
        | (go_at_call 17; (with_reducible refine (HC.out _ b1).mono ?_); rintro e w5 ⟨S, s, sh, rfl, hco, hat, h5⟩; have HO := Lib.hid hco; have HA := Lib.hid hat; clear hco hat; have b5 := b1.trans (h5.mono b1s); have b6 := b5.alloc b5.size (.cells #[.int .i64 traits, .slice C cl.length c, .slice T tl.length t, .int .i64 need, .slice S (cl.length + tl.length) s] 62); have ba := (Below.refl w5.heap.size w5).alloc (Nat.le_refl _) (.cells #[.int .i64 traits, .slice C cl.length c, .slice T tl.length t, .int .i64 need, .slice S (cl.length + tl.length) s] 62); have kw := Blk.new w5 #[.int .i64 traits, .slice C cl.length c, .slice T tl.length t, .int .i64 need, .slice S (cl.length + tl.length) s] 62; have kwc := kw.cell)
        | (go_at_call 18; (with_reducible refine (HS.out sh HO.out S s _ (ShInv.len HA.out) (HSh.out sh HO.out S s _ _ (HA.out.below ba) b6) b6).mono ?_); rintro e w7 ⟨rfl, h7⟩; have b7 := b6.trans (h7.mono b6.size); have k7c := (kw.below h7 kw.lt).cell)
        | (go_at_call 19; (with_reducible refine (HY.out S _ s z _).mono ?_); rintro e w8 ⟨rfl, h8⟩))
      go_ret3
      exact ⟨rfl, b7.trans (h8.mono b7.size)⟩
    · have q2' : valsB traits x = false := by simpa using q2
      have hE : forE ⟨traits, cl.map CrdD.v, tl.map TreD.v, need⟩ x = 61 := by unfold forE; rw [if_pos q1]; exact if_neg q2
      have HR : Hid (scN ⟨traits, cl.map CrdD.v, tl.map TreD.v, need⟩ x = 0 ∧ scY ⟨traits, cl.map CrdD.v, tl.map TreD.v, need⟩ x = false ∧ forE ⟨traits, cl.map CrdD.v, tl.map TreD.v, need⟩ x = 61) := Lib.hid ⟨by unfold scN; rw [hE]; rfl, by unfold scY; rw [hE]; rfl, hE⟩
      rw [HR.out.1, HR.out.2.1, HR.out.2.2]
      have HC := Lib.hid (fun W hb => openFor_vals traits need cl tl C T c t x X xc W (h.later (w' := W) hb) hls (hx.later hb) hxl q1 q2')
      clear h hx hls hE HR q1 q2 q2'
      go_enter Try.func7, Try.ntmps7
      go_wp2_with (go_at_call 17; (with_reducible refine (HC.out _ b1).mono ?_); rintro e w5 ⟨rfl, h5⟩; have b5 := b1.trans (h5.mono b1s); have k5c := (Blk.new w5 #[.int .i64 0, .slice none 0 0, .slice none 0 0, .int .i64 0, .slice none 0 0] 62).cell)
      go_ret3
      exact ⟨rfl, b5.alloc b5.size _⟩
  · have q1' : mdlB ⟨traits, cl.map CrdD.v, tl.map TreD.v, need⟩ = false := by simpa using q1
    have hE : forE ⟨traits, cl.map CrdD.v, tl.map TreD.v, need⟩ x = 60 := by unfold forE; exact if_neg q1
    have HR : Hid (scN ⟨traits, cl.map CrdD.v, tl.map TreD.v, need⟩ x = 0 ∧ scY ⟨traits, cl.map CrdD.v, tl.map TreD.v, need⟩ x = false ∧ forE ⟨traits, cl.map CrdD.v, tl.map TreD.v, need⟩ x = 60) := Lib.hid ⟨by unfold scN; rw [hE]; rfl, by unfold scY; rw [hE]; rfl, hE⟩
    rw [HR.out.1, HR.out.2.1, HR.out.2.2]
    have HC := Lib.hid (fun W hb => openFor_bad traits need cl tl C T c t x X xc W (h.later (w' := W) hb) hls q1')
    clear h hx hls hE HR q1 q1'
    go_enter Try.func7, Try.ntmps7
    go_wp2_with (go_at_call 17; (with_reducible refine (HC.out _ b1).mono ?_); rintro e w5 ⟨rfl, h5⟩; have b5 := b1.trans (h5.mono b1s); have k5c := (Blk.new w5 #[.int .i64 0, .slice none 0 0, .slice none 0 0, .int .i64 0, .slice none 0 0] 62).cell)
    go_ret3
    exact ⟨rfl, b5.alloc b5.size _⟩

set_option maxRecDepth 100000 in
set_option maxHeartbeats 4000000 in
theorem pointsP_all (traits need : Int) (cl : List CrdD) (tl : List TreD) (C T : Option Addr) (c t : Nat) (x : List Int) (X : Option Addr) (xc : Nat) (w : World) (h : MdlAt w w.heap.size ⟨traits, cl, C, c, tl, T, t, need⟩) (hls : MdlLe ⟨traits, cl, C, c, tl, T, t, need⟩) (hx : IntsAt w w.heap.size X x) (hxl : x.length ≤ 10) :
    Calls Try.prog 9 #[.agg #[.int .i64 traits, .slice C cl.length c, .slice T tl.length t, .int .i64 need], .slice X x.length xc] w fun e w' => ∃ A' c', e = .returned (.tuple #[.slice A' (ptL ⟨traits, cl.map CrdD.v, tl.map TreD.v, need⟩ x).length c', .int .i64 (forE ⟨traits, cl.map CrdD.v, tl.map TreD.v, need⟩ x)]) ∧ w'.ownsRow w.heap.size 3 1 (.slice A' (ptL ⟨traits, cl.map CrdD.v, tl.map TreD.v, need⟩ x).length c') (ptL ⟨traits, cl.map CrdD.v, tl.map TreD.v, need⟩ x).length ((ptL ⟨traits, cl.map CrdD.v, tl.map TreD.v, need⟩ x).flatMap intC) ∧ Below w.heap.size w w' := by
  have b1 := (Below.refl w.heap.size w).alloc (Nat.le_refl _) (.cells #[.int .i64 traits, .slice C cl.length c, .slice T tl.length t, .int .i64 need] 25)
  have k1 := Blk.new w #[.int .i64 traits, .slice C cl.length c, .slice T tl.length t, .int .i64 need] 25
  have k1c := k1.cell
  have b1s := b1.size
  by_cases q1 : mdlB ⟨traits, cl.map CrdD.v, tl.map TreD.v, need⟩ = true
  · by_cases q2 : valsB traits x = true
    · have hE : forE ⟨traits, cl.map CrdD.v, tl.map TreD.v, need⟩ x = 0 := by unfold forE; rw [if_pos q1]; exact if_pos q2
      have e1 : ptL ⟨traits, cl.map CrdD.v, tl.map TreD.v, need⟩ x = ptsL ⟨traits, cl.map CrdD.v, tl.map TreD.v, need⟩ x := by unfold ptL; rw [if_pos hE]
      have e2 : (ptsL ⟨traits, cl.map CrdD.v, tl.map TreD.v, need⟩ x).length = cl.length + tl.length := by unfold ptsL; simp
      rw [e1, e2, hE]
      clear hE e1 e2
      obtain ⟨_, hnd, p3, p4, _, _⟩ := mdlB_parts q1
      have hl := valsB_len q2
      have HC := Lib.hid (fun W hb => openFor_good traits need cl tl C T c t x X xc W (h.later (w' := W) hb) hls (hx.later hb) hxl q1 q2)
      have hls6 : cl.length ≤ 2 := by simpa using p3
      have hls7 : tl.length ≤ 2 := by simpa using p4
      have HSh := Lib.hid (fun (sh : List ShD) (hco : sh.map ShD.core = cl.map crdCore ++ tl.map treCore) (S : Option Addr) (s lo : Nat) W (hi : ShInv W lo S s (cl.length + tl.length) sh) (hb : Below w.heap.size w W) => hi.at_ (fun y hy q hq => ((core_parts h hco y hy q hq).below hb).more hb.size))
      have HS := Lib.hid (fun (sh : List ShD) (hco : sh.map ShD.core = cl.map crdCore ++ tl.map treCore) (S : Option Addr) (s : Nat) W (hlen : sh.length = cl.length + tl.length) (hat : SharesAt W W.heap.size S sh) (hb : Below w.heap.size w W) => show Calls Try.prog 22 #[.agg #[.int .i64 traits, .slice C cl.length c, .slice T tl.length t, .int .i64 need, .slice S (cl.length + tl.length) s], .slice X x.length xc] W (fun e w' => ∃ A' c', e = .returned (.slice A' (cl.length + tl.length) c') ∧ w'.ownsRow W.heap.size 3 1 (.slice A' (cl.length + tl.length) c') (cl.length + tl.length) ((ptsL ⟨traits, cl.map CrdD.v, tl.map TreD.v, need⟩ x).flatMap intC) ∧ Below W.heap.size W w') from by rw [← sh_points hco traits need x]; exact pointsP_inv traits need C T S cl.length c tl.length t s (cl.length + tl.length) sh x X xc W hlen hat (hx.later hb) (sh_ok q1 hl hco) (by omega) hxl)
      clear h hx hls
      generalize ptsL ⟨traits, cl.map CrdD.v, tl.map TreD.v, need⟩ x = L at *
      go_enter Try.func9, Try.ntmps9
      go_wp2_with (first
        | (go_at_call 17; (with_reducible refine (HC.out _ b1).mono ?_); rintro e w5 ⟨S, s, sh, rfl, hco, hat, h5⟩; have HO := Lib.hid hco; have HA := Lib.hid hat; clear hco hat; have b5 := b1.trans (h5.mono b1s); have b6 := b5.alloc b5.size (.cells #[.int .i64 traits, .slice C cl.length c, .slice T tl.length t, .int .i64 need, .slice S (cl.length + tl.length) s] 62); have ba := (Below.refl w5.heap.size w5).alloc (Nat.le_refl _) (.cells #[.int .i64 traits, .slice C cl.length c, .slice T tl.length t, .int .i64 need, .slice S (cl.length + tl.length) s] 62); have kw := Blk.new w5 #[.int .i64 traits, .slice C cl.length c, .slice T tl.length t, .int .i64 need, .slice S (cl.length + tl.length) s] 62; have kwc := kw.cell)
        | (go_at_call 22; (with_reducible refine (HS.out sh HO.out S s _ (ShInv.len HA.out) (HSh.out sh HO.out S s _ _ (HA.out.below ba) b6) b6).mono ?_); rintro e w7 ⟨A7, c7, rfl, hown, h7⟩; have HW := Lib.hid hown; clear hown))
      go_ret2
      exact ⟨A7, c7, rfl, own_base HW.out b6.size, b6.trans (h7.mono b6.size)⟩
    · have q2' : valsB traits x = false := by simpa using q2
      have hE : forE ⟨traits, cl.map CrdD.v, tl.map TreD.v, need⟩ x = 61 := by unfold forE; rw [if_pos q1]; exact if_neg q2
      have hR : ptL ⟨traits, cl.map CrdD.v, tl.map TreD.v, need⟩ x = [] := by unfold ptL; rw [hE]; rfl
      rw [hR, hE]
      have HC := Lib.hid (fun W hb => openFor_vals traits need cl tl C T c t x X xc W (h.later (w' := W) hb) hls (hx.later hb) hxl q1 q2')
      clear h hx hls hE hR q1 q2 q2'
      go_enter Try.func9, Try.ntmps9
      go_wp2_with (go_at_call 17; (with_reducible refine (HC.out _ b1).mono ?_); rintro e w5 ⟨rfl, h5⟩; have b5 := b1.trans (h5.mono b1s); have k5c := (Blk.new w5 #[.int .i64 0, .slice none 0 0, .slice none 0 0, .int .i64 0, .slice none 0 0] 62).cell)
      go_ret2
      exact ⟨none, 0, rfl, World.ownsRow_nil _ _ _ _, b5.alloc b5.size _⟩
  · have q1' : mdlB ⟨traits, cl.map CrdD.v, tl.map TreD.v, need⟩ = false := by simpa using q1
    have hE : forE ⟨traits, cl.map CrdD.v, tl.map TreD.v, need⟩ x = 60 := by unfold forE; exact if_neg q1
    have hR : ptL ⟨traits, cl.map CrdD.v, tl.map TreD.v, need⟩ x = [] := by unfold ptL; rw [hE]; rfl
    rw [hR, hE]
    have HC := Lib.hid (fun W hb => openFor_bad traits need cl tl C T c t x X xc W (h.later (w' := W) hb) hls q1')
    clear h hx hls hE hR q1 q1'
    go_enter Try.func9, Try.ntmps9
    go_wp2_with (go_at_call 17; (with_reducible refine (HC.out _ b1).mono ?_); rintro e w5 ⟨rfl, h5⟩; have b5 := b1.trans (h5.mono b1s); have k5c := (Blk.new w5 #[.int .i64 0, .slice none 0 0, .slice none 0 0, .int .i64 0, .slice none 0 0] 62).cell)
    go_ret2
    exact ⟨none, 0, rfl, World.ownsRow_nil _ _ _ _, b5.alloc b5.size _⟩
end Go.Proofs.Ytijhbcmmoagdmaa

namespace Go.Proofs.Ytijhbcmmoagdmaa
open Go.RowKit Go.Maps

def spnC (x : Spn) : List Value := [.int .i64 x.lo, .int .i64 x.hi]
theorem spnC_len (x : Spn) : (spnC x).length = 2 := rfl
abbrev SpnsAt (w : World) (B : Nat) (A : Option Addr) (l : List Spn) : Prop := Flat 2 spnC w B A l
theorem spns_at {w : World} {B : Nat} {A : Option Addr} {l : List Spn} (h : SpnsAt w B A l) {k : Nat} (hk : k < l.length) : ∃ b off, A = some ⟨b, off, none⟩ ∧ b < B ∧ w.cell? ⟨b, off + k * 2, none⟩ = some (.int .i64 l[k].lo) ∧ w.cell? ⟨b, off + k * 2 + 1, none⟩ = some (.int .i64 l[k].hi) := by
  obtain ⟨b, off, e, h1, h2⟩ := h k hk
  exact ⟨b, off, e, h1, h2 0 (by omega), h2 1 (by omega)⟩
set_option maxHeartbeats 400000 in
theorem spnV1_any (i : Int) (x : Spn) (w : World) :
    Calls Try.prog 50 #[.int .i64 i, .agg #[.int .i64 x.lo, .int .i64 x.hi]] w fun e w' => e = .returned (.bool (spnB x)) ∧ Below w.heap.size w w' := by
  have H := Lib.hid (fun W => withinP_any x.lo 0 x.hi W)
  have b1 := (Below.refl w.heap.size w).alloc (Nat.le_refl _) (.cells #[.int .i64 x.lo, .int .i64 x.hi] 45)
  have k1c := (Blk.new w #[.int .i64 x.lo, .int .i64 x.hi] 45).cell
  have hv : spnB x = (inN x.lo 0 x.hi && decide (x.hi ≤ 1000000)) := by
    unfold spnB inN
    by_cases h1 : (0 : Int) ≤ x.lo <;> by_cases h2 : x.lo ≤ x.hi <;> by_cases h3 : x.hi ≤ 1000000 <;> simp [h1, h2, h3] <;> omega
  rw [hv]
  cases hb : inN x.lo 0 x.hi with
  | true =>
    rw [hb] at H
    go_enter Try.func50, Try.ntmps50
    go_wp2_with (go_at_call 39; (with_reducible refine (H.out _).mono ?_); rintro e w1 ⟨rfl, rfl⟩)
    all_goals go_ret
    all_goals exact ⟨by simp, b1⟩
  | false =>
    rw [hb] at H
    go_enter Try.func50, Try.ntmps50
    go_wp2_with (go_at_call 39; (with_reducible refine (H.out _).mono ?_); rintro e w1 ⟨rfl, rfl⟩)
    all_goals go_ret
    all_goals exact ⟨by simp, b1⟩
set_option maxRecDepth 100000 in
set_option maxHeartbeats 4000000 in
theorem allSpn_any (l : List Spn) (A : Option Addr) (a : Nat) (P : Nat → Bool) (w : World) (h : Flat 2 spnC w w.heap.size A l) (hl : l.length ≤ 1000)
    (HG : Hid (∀ i (_ : i < l.length) W, Below w.heap.size w W → Calls Try.prog 50 #[.int .i64 i, .agg #[.int .i64 l[i].lo, .int .i64 l[i].hi]] W fun e w' => e = .returned (.bool (P i)) ∧ Below W.heap.size W w')) :
    Calls Try.prog 49 #[.slice A l.length a, .func (.func 50) #[] #[]] w fun e w' => e = .returned (.bool (rangeB l.length P)) ∧ Below w.heap.size w w' := by
  have HE : Hid (rangeB l.length P = rangeB l.length P) := Lib.hid rfl
  generalize hV : rangeB l.length P = V at *
  have HV := Lib.hid hV
  clear hV HE
  go_enter Try.func49, Try.ntmps49
  go_wp2_with fail
  go_loopw [9] (fun ii wr => ∃ i : Nat, i ≤ l.length ∧ ii = .int .i64 i ∧ Hid ((∀ j, j < i → P j = true) ∧ Below w.heap.size w wr)) (fun ii _ => l.length - (vInt ii).toNat)
  case atStart => exact ⟨0, Nat.zero_le _, rfl, Lib.hid ⟨fun j hj => by omega, Below.refl _ _⟩⟩
  case round =>
    obtain ⟨i, hi, rfl, hR⟩ := hrel
    obtain ⟨hS, hB⟩ := hR.out
    by_cases hlt : i < l.length
    · have hil : (i : Int) < (l.length : Int) := by omega
      obtain ⟨b, off, rfl, hb, c0, c1⟩ := spns_at (h.later hB) hlt
      have HGi := Lib.hid (HG.out i hlt (wr.alloc (.cells #[.int .i64 l[i].lo, .int .i64 l[i].hi] 45)) (hB.alloc hB.size (.cells #[.int .i64 l[i].lo, .int .i64 l[i].hi] 45)))
      have hB1 : Below w.heap.size w (wr.alloc (.cells #[.int .i64 l[i].lo, .int .i64 l[i].hi] 45)) := (hB.alloc hB.size (.cells #[.int .i64 l[i].lo, .int .i64 l[i].hi] 45))
      cases hv : P i with
      | false =>
        have Hv : Hid (V = false) := Lib.hid (by rw [← HV.out]; exact rangeB_stop hlt hv)
        rw [hv] at HGi
        clear hS hR HG hv h
        generalize l[i] = y at *
        have knc := (Blk.new wr #[.int .i64 y.lo, .int .i64 y.hi] 45).cell
        go_wp2_with (go_at_call 50; (with_reducible refine (HGi.out).mono ?_); rintro e w5 ⟨rfl, h5⟩)
        go_ret
        exact ⟨by rw [Hv.out]; rfl, hB1.trans (h5.mono hB1.size)⟩
      | true =>
        have HJ : Hid (∀ j, j < i + 1 → P j = true) := Lib.hid (fun j hj => by
          rcases Nat.lt_or_ge j i with hj2 | hj2
          · exact hS j hj2
          · rw [show j = i by omega]; exact hv)
        rw [hv] at HGi
        clear hS hR hv
        generalize l[i] = y at *
        have knc := (Blk.new wr #[.int .i64 y.lo, .int .i64 y.hi] 45).cell
        go_wp2_with (go_at_call 50; (with_reducible refine (HGi.out).mono ?_); rintro e w5 ⟨rfl, h5⟩)
        go_roundw
        case rel => exact ⟨i + 1, by omega, by go_num, Lib.hid ⟨HJ.out, hB1.trans (h5.mono hB1.size)⟩⟩
        case measure => simp [vInt]; omega
    · have hil : ¬ (i : Int) < (l.length : Int) := by omega
      obtain rfl : i = l.length := by omega
      have Hv : Hid (V = true) := Lib.hid (by rw [← HV.out]; exact rangeB_iff.2 hS)
      clear hS hR
      go_wp2_with fail
      go_ret
      exact ⟨by rw [Hv.out]; rfl, hB⟩


set_option maxHeartbeats 1000000 in
theorem spansV_any (traits need : Int) (C T S : Option Addr) (cl c tl t n s : Nat) (x : List Spn) (A : Option Addr) (a : Nat) (w : World) (h : SpnsAt w w.heap.size A x) (hl : x.length ≤ 10) :
    Calls Try.prog 31 #[.agg #[.int .i64 traits, .slice C cl c, .slice T tl t, .int .i64 need, .slice S n s], .slice A x.length a] w fun e w' => e = .returned (.bool (spnsB traits x)) ∧ Below w.heap.size w w' := by
  have b1 := (Below.refl w.heap.size w).alloc (Nat.le_refl _) (.cells #[.int .i64 traits, .slice C cl c, .slice T tl t, .int .i64 need, .slice S n s] 62)
  have k1c := (Blk.new w #[.int .i64 traits, .slice C cl c, .slice T tl t, .int .i64 need, .slice S n s] 62).cell
  have h1 := h.later b1
  have H := Lib.hid (fun W (hb : Below w.heap.size w W) => allSpn_any x A a (fun i => spnB (x.getD i default)) W (h.later hb) (by omega) (Lib.hid (fun i hi W _ => by rw [getD_lt x default hi]; exact spnV1_any i x[i] W)))
  rw [range_all x default spnB] at H
  by_cases ht : (x.length : Int) = traits
  · have e1 : ((x.length : Int) == traits) = true := by simpa using ht
    have Hv : Hid (x.all spnB = spnsB traits x) := Lib.hid (by unfold spnsB; rw [decide_eq_true ht]; simp)
    rw [Hv.out] at H
    clear ht Hv h h1
    go_enter Try.func31, Try.ntmps31
    go_wp2_with (go_at_call 49; (with_reducible refine (H.out _ (by first | exact b1 | exact Below.refl _ _)).mono ?_); rintro e w5 ⟨rfl, h5⟩)
    go_ret
    exact ⟨rfl, b1.trans (h5.mono b1.size)⟩
  · have e1 : ((x.length : Int) == traits) = false := by simpa using ht
    have Hv : Hid (spnsB traits x = false) := Lib.hid (by unfold spnsB; rw [decide_eq_false ht]; rfl)
    clear ht h h1 H
    go_enter Try.func31, Try.ntmps31
    go_wp2_with fail
    go_ret
    exact ⟨by rw [Hv.out]; rfl, b1⟩
/-- The greater one of two numbers, the second in new memory. -/
theorem greatest_any (n z : Int) (g c : Nat) (w : World) (h : w.cell? ⟨g, 0, none⟩ = some (.int .i64 z)) (hg : g < w.heap.size) :
    Calls Try.prog 52 #[.int .i64 n, .slice (some ⟨g, 0, none⟩) 1 c] w fun e w' => e = .returned (.int .i64 (max n z)) ∧ w = w' := by
  go_enter Try.func52, Try.ntmps52
  go_wp2_with fail
  go_loopw [0, 9] (fun nn ii wr => wr = w ∧ ((ii = .int .i64 0 ∧ nn = .int .i64 n) ∨ (ii = .int .i64 1 ∧ nn = .int .i64 (max n z)))) (fun _ ii _ => 1 - (vInt ii).toNat)
  case atStart => exact ⟨rfl, .inl ⟨rfl, rfl⟩⟩
  case round =>
    obtain ⟨rfl, ⟨rfl, rfl⟩ | ⟨rfl, rfl⟩⟩ := hrel
    · by_cases hz : n < z
      · have hm : max n z = z := by omega
        rw [hm]
        go_wp2_with fail
        go_roundw
        case rel => exact ⟨trivial, .inr ⟨by go_num, rfl⟩⟩
        case measure => simp [vInt]
      · have hm : max n z = n := by omega
        rw [hm]
        go_wp2_with fail
        go_roundw
        case rel => exact ⟨trivial, .inr ⟨by go_num, rfl⟩⟩
        case measure => simp [vInt]
    · go_wp2_with fail
      go_ret
      exact ⟨rfl, rfl⟩
end Go.Proofs.Ytijhbcmmoagdmaa
