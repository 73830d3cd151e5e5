/- A range over a function that hands on memory of its own: the iterator's contract, and the law for its caller. -/
import Derived.RangeFuncNested
import Derived.RangeFuncBound
import Derived.RangeFuncCalls
import Derived.RangeFuncLeaves
import Derived.Shelf.Abstract
import Derived.Shelf.RegionOpen
import Derived.WalkKit
import Derived.OwnWalkIn
import Derived.TacticsInMore
import Derived.LoopNIn
import Derived.LoopIn
import Derived.Test.YtpahcbhikmfamaaGreatRExSP1

namespace Go.Proofs.YtpahcbhikmfamaaGreat
open Go.RowKit Go.Shelf

/-- The blocks with P stay, and so does what is outside. -/
structure Kpt (P : Nat → Prop) (A B : World) : Prop where
  size : A.heap.size ≤ B.heap.size
  blk : ∀ b, b < A.heap.size → P b → B.heap[b]? = A.heap[b]?
  os : B.os = A.os
  tape : B.tape = A.tape
  output : B.output = A.output
section
variable {P Q : Nat → Prop} {A B C : World}
theorem Kpt.refl (P : Nat → Prop) (A : World) : Kpt P A A := ⟨Nat.le_refl _, fun _ _ _ => rfl, rfl, rfl, rfl⟩
theorem Kpt.trans (h : Kpt P A B) (k : Kpt P B C) : Kpt P A C := ⟨Nat.le_trans h.size k.size, fun b hb hp => (k.blk b (Nat.lt_of_lt_of_le hb h.size) hp).trans (h.blk b hb hp), k.os.trans h.os, k.tape.trans h.tape, k.output.trans h.output⟩
theorem Kpt.imp (h : Kpt P A B) (hq : ∀ b, Q b → P b) : Kpt Q A B := ⟨h.size, fun b hb hp => h.blk b hb (hq b hp), h.os, h.tape, h.output⟩
theorem Kpt.imp' (h : Kpt P A B) (hq : ∀ b, b < A.heap.size → Q b → P b) : Kpt Q A B := ⟨h.size, fun b hb hp => h.blk b hb (hq b hb hp), h.os, h.tape, h.output⟩
theorem Kpt.of_below {D : Nat} (h : Below D A B) (hP : ∀ b, P b → b < D) : Kpt P A B := ⟨h.size, fun b _ hp => h.block b (hP b hp), h.os, h.tape, h.output⟩
theorem Kpt.of_all (h : Below A.heap.size A B) : Kpt P A B := ⟨h.size, fun b hb _ => h.block b hb, h.os, h.tape, h.output⟩
theorem Kpt.set {p : Addr} (hp : ¬ P p.block) (v : Value) : Kpt P A (A.setCell p v) := ⟨by simp, fun b _ hb => Below.heap_setCell _ _ _ _ (fun e => hp (e ▸ hb)), rfl, rfl, rfl⟩
theorem Kpt.put {l : Nat} (hp : ¬ P l) (o : Obj) : Kpt P A (A.putObj l o) := ⟨by simp, fun b _ hb => World.putObj_heap_other (fun e => hp (by rw [e] at hb; first | exact hb | exact e ▸ hb)), rfl, rfl, rfl⟩
theorem Kpt.cell (h : Kpt P A B) {b o : Nat} (hb : b < A.heap.size) (hp : P b) : B.cell? ⟨b, o, none⟩ = A.cell? ⟨b, o, none⟩ := World.cell?_of_block (h.blk b hb hp)
theorem Kpt.of_own {row : Option Nat} (hg : A.grownBy B row) (hP : ∀ b, P b → row ≠ some b) : Kpt P A B := ⟨hg.size, fun b hb hp => hg.block b hb (fun e => hP b hp (by first | exact e | exact e.symm)), hg.os, hg.tape, hg.output⟩
/-- What is kept below a number is 'Below'. -/
theorem Kpt.below {D : Nat} (h : Kpt P A B) (hD : D ≤ A.heap.size) (hP : ∀ b, b < D → P b) : Below D A B := ⟨h.os, h.tape, h.output, h.size, fun b hb => h.blk b (Nat.lt_of_lt_of_le hb hD) (hP b hb)⟩
end
/-- Cells lie there. -/
def CellsAt (A : World) (b : Nat) : Prop := ∃ o, A.heap[b]? = some o ∧ o.isCells = true
/-- What lay below D stays, and the cells from M on. -/
abbrev Kx (D M : Nat) (A B : World) : Prop := Kpt (fun b => b < D ∨ (M ≤ b ∧ CellsAt A b)) A B
theorem Kx.put {D M l : Nat} {A : World} (h1 : D ≤ l) (h2 : l < M) (o' : Obj) : Kx D M A (A.putObj l o') := Kpt.put (fun h => by rcases h with h | ⟨h, _⟩ <;> omega) o'
theorem Kx.set {D M : Nat} {A : World} {p : Addr} (h1 : D ≤ p.block) (h2 : p.block < M) (v : Value) : Kx D M A (A.setCell p v) := Kpt.set (fun h => by rcases h with h | ⟨h, _⟩ <;> omega) v
theorem Kx.own {D M B : Nat} {A A' : World} {row : Option Nat} (hg : A.grownBy A' row) (hD : D ≤ B) (hr : ∀ r, row = some r → B ≤ r ∧ ∃ o : Obj, A.heap[r]? = some o ∧ o.isCells = false) : Kx D M A A' := ⟨hg.size, fun b hb hp => hg.block b hb (fun e => by
  obtain ⟨h1, o, h2, h3⟩ := hr b e.symm
  rcases hp with h | ⟨_, o', h4, h5⟩
  · omega
  · rw [h2] at h4; cases h4; rw [h3] at h5; cases h5), hg.os, hg.tape, hg.output⟩
theorem below_putObj {D : Nat} (W : World) (l : Nat) (o : Obj) (hl : D ≤ l) (hlt : l < W.heap.size) : Below D W (W.putObj l o) := (Below.refl D W).grown (grownBy_putObj' W l o) (by omega) (fun k e => by cases e; exact hl)

/-- The iterator's contract: 'At x W': what of x lies in memory when it is handed on; 'R': what it reads of the memory that it has not made. -/
def SeqM {α : Type} (F : Fence) (n : Nat) (P : Program) (g : Nat) (lb : Array Value) (encs : α → Array Value) (At : α → World → Prop) (R : Nat → Prop) (S Sp : List α → Prop) (w : World) : Prop :=
  ∀ (l : Nat) (J : List α → World → Prop) (Jx : Nat → List α → World → Prop) (W : World), Below w.heap.size w W →
    (∀ pre A B, J pre A → Below W.heap.size A B → J pre B) →
    (∀ M pre A B, Jx M pre A → Kx W.heap.size M A B → Jx M pre B) →
    (∀ pre x W1, J pre W1 → At x W1 → W.heap.size ≤ W1.heap.size → YieldAt F (n - 1) P l (encs x) W1 fun e W' =>
      (e = .returned (.bool true) ∧ J (pre ++ [x]) W' ∧ Kpt (fun b => R b ∨ W.heap.size ≤ b) W1 W') ∨ (e = .returned (.bool false) ∧ Jx W1.heap.size (pre ++ [x]) W' ∧ Kpt (fun b => R b ∨ W.heap.size ≤ b) W1 W')) →
    J [] W →
    CallsIn F n P g (#[.func (.yield l) #[] #[]] ++ lb) W fun e W' => (∃ v, e = .returned v) ∧ ((∃ xs, S xs ∧ J xs W') ∨ (∃ M pre, Sp pre ∧ Jx M pre W'))

/-- How the body of a round may be left. -/
def ownPostM {α : Type} (R : Nat → Prop) (B : Nat) (I : List α → World → Prop) (Ix : Code → Nat → List α → World → Prop) (xs : List α) (W : World) : Exit → Act → World → Prop
  | .normal, _, W' => Kpt (fun b => R b ∨ B ≤ b) W W' ∧ I xs W'
  | .ret, _, W' => Kpt (fun b => R b ∨ B ≤ b) W W' ∧ Ix .ret W.heap.size xs W'
  | .exit id, _, W' => Kpt (fun b => R b ∨ B ≤ b) W W' ∧ Ix (.exit id) W.heap.size xs W'
  | .goto t, _, W' => Kpt (fun b => R b ∨ B ≤ b) W W' ∧ Ix (.goto t) W.heap.size xs W'
  | .panic _, _, _ => False
  | .outgrown, _, _ => False

variable {F : Fence} {n : Nat} {P : Program}

theorem wpIn_rangeFunc_ownM {α : Type} {g : Operand} {ps : Array Tmp} {assign body : Code} {Q : Exit → Act → World → Prop} {a : Act} {w : World}
    (hro : F.round = none) (h1 : 1 ≤ n) {gf : Nat} {lb : Array Value} (hg : a.eval g = .func (.func gf) #[] lb) (hFg : F.fn gf) (eg : ∀ args w, (callFunc gf args).run P w = .ok (.enter gf args) w)
    {encs : α → Array Value} {At : α → World → Prop} {R : Nat → Prop} {S Sp : List α → Prop} {w0 : World} (hseq : SeqM F (n - 1) P gf lb encs At R S Sp w0)
    (hR : ∀ b, R b → b < w.heap.size) (hb0 : Below w0.heap.size w0 w) (hps : ∀ x, (encs x).size = ps.size)
    (I : List α → World → Prop) (Ix : Code → Nat → List α → World → Prop) (hI : ∀ pre A B, I pre A → Below w.heap.size A B → I pre B) (hIx : ∀ c M pre A B, Ix c M pre A → Kx w.heap.size M A B → Ix c M pre B) (h0 : I [] w) (a₁ : α → Act)
    (hassign : ∀ (l : Nat) (x : α) (W : World) (K : Act → World → Prop), K (a₁ x) W →
      assign.wpIn (F.inRound l) (n - 1 - 1) P (Exit.then K (fun _ _ _ => False)) { tmps := (ps.zip (encs x)).foldl (fun t (p, v) => t.setIfInBounds p v) a.tmps, defers := [] } W)
    (hbody : ∀ (l : Nat) (pre : List α) (x : α) (W : World), w.heap.size ≤ l → (∃ r, W.heap[l]? = some (.loop r)) → I pre W → (∃ W0, At x W0 ∧ (∃ r, W0.heap[l]? = some (.loop r)) ∧ Kpt (fun b => b ≠ l) W0 W) → w.heap.size ≤ W.heap.size → body.wpIn (F.inRound l) (n - 1 - 1) P (ownPostM R w.heap.size I Ix (pre ++ [x]) W) (a₁ x) W)
    (hdone : ∀ (D : Nat) (xs : List α) (W : World), w.heap.size ≤ D → S xs → I xs W → W.heap[D]? = some (.deferred (some [])) → Q .normal { a with defers := { target := .collected D, args := #[] } :: a.defers } W)
    (hstop : ∀ (D : Nat) (c : Code) (M : Nat) (pre : List α) (W : World), w.heap.size ≤ D → Sp pre → Ix c M pre W → W.heap[D]? = some (.deferred (some [])) → c.wpIn F n P Q { a with defers := { target := .collected D, args := #[] } :: a.defers } W) :
    (Code.rangeFunc g ps assign body).wpIn F n P Q a w := by
  refine wpIn_rangeFunc ?_
  intro fn hfn
  rw [hro]
  obtain ⟨rec, hrec⟩ : ∃ rec : LoopState → Option Code → Loop, rec = fun st pe => { state := st, pending := pe, fn, tmps := a.tmps, params := ps, assign, body, defers := w.heap.size } := ⟨_, rfl⟩
  obtain ⟨W1, hW1⟩ : ∃ W1, (w.alloc (.deferred (some []))).alloc (.loop (rec .ready none)) = W1 := ⟨_, rfl⟩
  have hL1 : W1.heap[w.heap.size + 1]? = some (.loop (rec .ready none)) := by
    rw [← hW1]; have := World.alloc_heap_new (w.alloc (.deferred (some []))) (.loop (rec .ready none)); rwa [World.size_alloc] at this
  have hK1 : W1.heap[w.heap.size]? = some (.deferred (some [])) := by
    rw [← hW1]; exact (Below.heap_alloc _ _ _ (by simp)).trans (World.alloc_heap_new w _)
  have hb1' : Below w.heap.size w W1 := by
    rw [← hW1]; exact ((Below.refl _ w).alloc (Nat.le_refl _) _).alloc (by simp) _
  have hI1 : I [] W1 := hI _ _ _ h0 hb1'
  have hs1 : W1.heap.size = w.heap.size + 2 := by rw [← hW1]; simp
  refine ⟨w.heap.size + 1, [{ target := .collected w.heap.size, args := #[] }], W1, { target := .fn (.func gf) lb, args := #[.func (.yield (w.heap.size + 1)) #[] #[]] }, W1, gf,
    #[.func (.yield (w.heap.size + 1)) #[] #[]] ++ lb, W1, ?_, ?_, ?_, ?_, fun _ => h1, ?_⟩
  · rw [← hW1, hrec]; exact run_enterLoop_outer _ _ _ _ _
  · simp only [resolve, hg]
    simp [go_sem]
  · intro f' hf'; simp [Target.leads] at hf'; subst hf'; exact hFg
  · simp [invoke, go_sem, eg]
  · refine (hseq (w.heap.size + 1)
      (fun pre W => I pre W ∧ W.heap[w.heap.size + 1]? = some (.loop (rec .ready none)) ∧ W.heap[w.heap.size]? = some (.deferred (some [])))
      (fun M pre W => w.heap.size + 1 < M ∧ ∃ c, Ix c M pre W ∧ W.heap[w.heap.size + 1]? = some (.loop (rec .done (some c))) ∧ W.heap[w.heap.size]? = some (.deferred (some [])))
      W1 (hb0.trans (hb1'.mono hb0.size))
      (fun pre A B hs hg' => ⟨hI _ _ _ hs.1 (hg'.mono (by omega)), (hg'.block _ (by omega)).trans hs.2.1, (hg'.block _ (by omega)).trans hs.2.2⟩)
      (fun M pre A B hs hg' => by
        obtain ⟨hM, c, hc, hl, hk⟩ := hs
        have hl' := (Array.getElem?_eq_some_iff.1 hl).1
        exact ⟨hM, c, hIx c _ _ _ _ hc (hg'.imp (fun b hb => by rcases hb with h | h; exact .inl (by omega); exact .inr h)), (hg'.blk _ hl' (.inl (by omega))).trans hl, (hg'.blk _ (by omega) (.inl (by omega))).trans hk⟩)
      ?_ ⟨hI1, hL1, hK1⟩).mono ?_
    · -- one round
      rintro pre x W ⟨hi, hl, hk⟩ hat hsW
      have hlt : w.heap.size + 1 < W.heap.size := (Array.getElem?_eq_some_iff.1 hl).1
      have hy := run_yield (P := P) (args := encs x) hl (by rw [hrec]; exact hps x)
      rw [hrec] at hy
      refine ⟨fn, _, assign, body, hy, roundIn_of_wpIn hfn (hassign _ x W _ ⟨_, run_beginRound hl (by rw [hrec]), ?_⟩)⟩
      have hl2 : (W.putObj (w.heap.size + 1) (.loop { rec .ready none with state := .busy })).heap[w.heap.size + 1]? = some (.loop { rec .ready none with state := .busy }) := World.putObj_heap_same hlt
      have hk2 : (W.putObj (w.heap.size + 1) (.loop { rec .ready none with state := .busy })).heap[w.heap.size]? = some (.deferred (some [])) := (World.putObj_heap_other (by omega)).trans hk
      have hz2 : (W.putObj (w.heap.size + 1) (.loop { rec .ready none with state := .busy })).heap.size = W.heap.size := by simp
      have hRn : ∀ (D : Nat), w.heap.size + 1 < D → ¬ (R (w.heap.size + 1) ∨ D ≤ w.heap.size + 1) := fun D hD h => by
        rcases h with h | h
        · have := hR _ h; omega
        · omega
      refine wpIn_mono (hbody _ pre x _ (by omega) ⟨_, hl2⟩ (hI _ _ _ hi (below_putObj W _ _ (by omega) hlt)) ⟨W, hat, ⟨_, hl⟩, Kpt.put (fun h => h rfl) _⟩ (by simp; omega)) ?_
      have fin : ∀ (jump : Option Code) (W3 : World), Kpt (fun b => R b ∨ w.heap.size ≤ b) (W.putObj (w.heap.size + 1) (.loop { rec .ready none with state := .busy })) W3 →
          (Instr.endRound (w.heap.size + 1) jump).run P W3 = .ok (.bool jump.isNone) (W3.putObj (w.heap.size + 1) (.loop (rec (if jump.isNone then .ready else .done) jump))) ∧
          W3.heap[w.heap.size + 1]? = some (.loop { rec .ready none with state := .busy }) ∧
          (W3.putObj (w.heap.size + 1) (.loop (rec (if jump.isNone then .ready else .done) jump))).heap[w.heap.size + 1]? = some (.loop (rec (if jump.isNone then .ready else .done) jump)) ∧
          (W3.putObj (w.heap.size + 1) (.loop (rec (if jump.isNone then .ready else .done) jump))).heap[w.heap.size]? = some (.deferred (some [])) ∧
          Kpt (fun b => R b ∨ W1.heap.size ≤ b) W (W3.putObj (w.heap.size + 1) (.loop (rec (if jump.isNone then .ready else .done) jump))) := fun jump W3 hk3 => by
        have hl3 := (hk3.blk _ (by omega) (.inr (by omega))).trans hl2
        have := run_endRound (P := P) jump hl3
        rw [hrec] at this ⊢
        refine ⟨this, by rw [hrec] at hl3; exact hl3, World.putObj_heap_same (Array.getElem?_eq_some_iff.1 hl3).1, (World.putObj_heap_other (by omega)).trans ((hk3.blk _ (by omega) (.inr (Nat.le_refl _))).trans hk2), ?_⟩
        rw [hrec] at hk3
        exact ((Kpt.put (hRn _ (by omega)) _).trans (hk3.imp (fun b hb => by rcases hb with h | h; exact .inl h; exact .inr (by omega)))).trans (Kpt.put (hRn _ (by omega)) _)
      rintro e a3 W3 hp
      cases e with
      | normal =>
        obtain ⟨hk3, hi3⟩ := hp
        obtain ⟨hr, hl3, hl4, hk4, hkk⟩ := fin none W3 hk3
        exact ⟨_, _, hr, .inl ⟨rfl, ⟨hI _ _ _ hi3 (below_putObj W3 _ _ (by omega) (Array.getElem?_eq_some_iff.1 hl3).1), hl4, hk4⟩, hkk⟩⟩
      | ret =>
        obtain ⟨hk3, hi3⟩ := hp
        obtain ⟨hr, hl3, hl4, hk4, hkk⟩ := fin (some .ret) W3 hk3
        rw [hz2] at hi3
        exact ⟨_, _, hr, .inr ⟨rfl, ⟨hlt, .ret, hIx _ _ _ _ _ hi3 (Kx.put (by omega) (by omega) _), hl4, hk4⟩, hkk⟩⟩
      | exit id =>
        obtain ⟨hk3, hi3⟩ := hp
        obtain ⟨hr, hl3, hl4, hk4, hkk⟩ := fin (some (.exit id)) W3 hk3
        rw [hz2] at hi3
        exact ⟨_, _, hr, .inr ⟨rfl, ⟨hlt, .exit id, hIx _ _ _ _ _ hi3 (Kx.put (by omega) (by omega) _), hl4, hk4⟩, hkk⟩⟩
      | goto t =>
        obtain ⟨hk3, hi3⟩ := hp
        obtain ⟨hr, hl3, hl4, hk4, hkk⟩ := fin (some (.goto t)) W3 hk3
        rw [hz2] at hi3
        exact ⟨_, _, hr, .inr ⟨rfl, ⟨hlt, .goto t, hIx _ _ _ _ _ hi3 (Kx.put (by omega) (by omega) _), hl4, hk4⟩, hkk⟩⟩
      | panic ch => exact hp.elim
      | outgrown => exact hp.elim
    · -- behind the iterator
      rintro e W2 ⟨⟨v, rfl⟩, (⟨xs, hS, hi, hl, hk⟩ | ⟨M, pre, hSp, hM, c, hi, hl, hk⟩)⟩
      · exact ⟨none, _, by have := run_endLoop (P := P) hl (by rw [hrec]; simp); rw [hrec] at this; exact this, hdone _ xs _ (Nat.le_refl _) hS (hI _ _ _ hi (below_putObj W2 _ _ (by omega) (Array.getElem?_eq_some_iff.1 hl).1)) ((World.putObj_heap_other (by omega)).trans hk)⟩
      · exact ⟨some c, _, by have := run_endLoop (P := P) hl (by rw [hrec]; simp); rw [hrec] at this; exact this, hstop _ c M pre _ (Nat.le_refl _) hSp (hIx c _ _ _ _ hi (Kx.put (by omega) (by omega) _)) ((World.putObj_heap_other (by omega)).trans hk)⟩
end Go.Proofs.YtpahcbhikmfamaaGreat
