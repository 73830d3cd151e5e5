/- What stays in memory that is partly stored into. -/
import Derived.Test.YtjiajgmfkdkheaaSDat

namespace Go.Proofs.Ytjiajgmfkdkheaa
open Go.RowKit Go.Maps

/-- All blocks with P stay. -/
structure Fr (P : Nat → Prop) (w w' : World) : Prop where
  size : w.heap.size ≤ w'.heap.size
  blk : ∀ b, b < w.heap.size → P b → w'.heap[b]? = w.heap[b]?
section
variable {P Q : Nat → Prop} {w w' w'' : World}
theorem Fr.refl (P : Nat → Prop) (w : World) : Fr P w w := ⟨Nat.le_refl _, fun _ _ _ => rfl⟩
theorem Fr.trans (h : Fr P w w') (h' : Fr P w' w'') : Fr P w w'' := ⟨Nat.le_trans h.size h'.size, fun b hb hp => (h'.blk b (Nat.lt_of_lt_of_le hb h.size) hp).trans (h.blk b hb hp)⟩
theorem Fr.below (h : Below w.heap.size w w') : Fr P w w' := ⟨h.size, fun b hb _ => h.block b hb⟩
theorem Fr.set {p : Addr} (hp : ¬ P p.block) (v : Value) : Fr P w (w.setCell p v) := ⟨by simp, fun b _ hb => Below.heap_setCell _ _ _ _ (fun e => hp (e ▸ hb))⟩
theorem Fr.grown {row : Option Nat} (h : w.grownBy w' row) (hr : ∀ b, P b → some b ≠ row) : Fr P w w' := ⟨h.size, fun b hb hp => h.block b hb (hr b hp)⟩
theorem Fr.imp (h : Fr P w w') (hq : ∀ b, Q b → P b) : Fr Q w w' := ⟨h.size, fun b hb hp => h.blk b hb (hq b hp)⟩
theorem Fr.cell (h : Fr P w w') {b o : Nat} (hb : b < w.heap.size) (hp : P b) : w'.cell? ⟨b, o, none⟩ = w.cell? ⟨b, o, none⟩ := World.cell?_of_block (h.blk b hb hp)
end
def FlatP {α : Type} (n : Nat) (f : α → List Value) (w : World) (P : Nat → Prop) (A : Option Addr) (l : List α) : Prop :=
  ∀ k, (h : k < l.length) → ∃ b off, A = some ⟨b, off, none⟩ ∧ b < w.heap.size ∧ P b ∧ ∀ i, i < n → w.cell? ⟨b, off + k * n + i, none⟩ = (f l[k])[i]?
section
variable {α : Type} {n : Nat} {f : α → List Value} {w w' : World} {P Q : Nat → Prop} {A : Option Addr} {l : List α}
theorem FlatP.flat (h : FlatP n f w P A l) : Flat n f w w.heap.size A l := fun k hk => by
  obtain ⟨b, off, e, h2, _, h4⟩ := h k hk
  exact ⟨b, off, e, h2, h4⟩
theorem FlatP.move (h : FlatP n f w P A l) (hf : Fr P w w') : FlatP n f w' P A l := fun k hk => by
  obtain ⟨b, off, e, h1, h2, h3⟩ := h k hk
  exact ⟨b, off, e, Nat.lt_of_lt_of_le h1 hf.size, h2, fun i hi => (hf.cell h1 h2).trans (h3 i hi)⟩
theorem FlatP.imp (h : FlatP n f w P A l) (hq : ∀ b, b < w.heap.size → P b → Q b) : FlatP n f w Q A l := fun k hk => by
  obtain ⟨b, off, e, h1, h2, h3⟩ := h k hk
  exact ⟨b, off, e, h1, hq b h1 h2, h3⟩
theorem FlatP.of_flat {B : Nat} (h : Flat n f w B A l) (hB : B ≤ w.heap.size) (hP : ∀ b, b < B → P b) : FlatP n f w P A l := fun k hk => by
  obtain ⟨b, off, e, h1, h3⟩ := h k hk
  exact ⟨b, off, e, Nat.lt_of_lt_of_le h1 hB, hP b h1, h3⟩
theorem FlatP.of_own (hn : ∀ x, (f x).length = n) (h0 : 0 < n) {base : Nat} {c : Nat} {t : TypeId} (h : w.ownsRow base t n (.slice A l.length c) l.length (l.flatMap f)) (hP : ∀ b, base ≤ b → b < w.heap.size → (Value.slice A l.length c).ownBlock = some b → P b) : FlatP n f w P A l := fun k hk => by
  obtain ⟨b, off, e, h2, h4⟩ := Flat.of_own hn h0 h k hk
  subst e
  have h5 := h.lt b rfl
  exact ⟨b, off, rfl, h2, hP b h5.1 h2 rfl, h4⟩
theorem FlatP.news (hn : ∀ x, (f x).length = n) (h0 : 0 < n) (h : FlatP n f w P A l) : ∀ ad, A = some ad → ∀ j u, (l.flatMap f)[j]? = some u → w.cell? (ad.add j) = some u := Flat.news hn h0 h.flat
theorem FlatP.none_ (h : FlatP n f w P none l) : l.length = 0 := Flat.none_ h.flat
end
structure SclP (w : World) (P : Nat → Prop) (x : SclD) : Prop where
  cuts : FlatP 1 intC w P x.A x.v.cuts
  pts : FlatP 1 intC w P x.B x.v.pts
structure SclsP (w : World) (P : Nat → Prop) (A : Option Addr) (l : List SclD) : Prop where
  row : FlatP 3 sclC w P A l
  each : ∀ x ∈ l, SclP w P x
section
variable {w w' : World} {P Q : Nat → Prop}
theorem SclP.move {x : SclD} (h : SclP w P x) (hf : Fr P w w') : SclP w' P x := ⟨h.cuts.move hf, h.pts.move hf⟩
theorem SclP.imp {x : SclD} (h : SclP w P x) (hq : ∀ b, b < w.heap.size → P b → Q b) : SclP w Q x := ⟨h.cuts.imp hq, h.pts.imp hq⟩
theorem SclsP.move {A : Option Addr} {l : List SclD} (h : SclsP w P A l) (hf : Fr P w w') : SclsP w' P A l := ⟨h.row.move hf, fun x hx => (h.each x hx).move hf⟩
theorem SclsP.imp {A : Option Addr} {l : List SclD} (h : SclsP w P A l) (hq : ∀ b, b < w.heap.size → P b → Q b) : SclsP w Q A l := ⟨h.row.imp hq, fun x hx => (h.each x hx).imp hq⟩
theorem SclsP.at_ {A : Option Addr} {l : List SclD} (h : SclsP w P A l) : SclsAt w w.heap.size A l := ⟨h.row.flat, fun x hx => ⟨(h.each x hx).cuts.flat, (h.each x hx).pts.flat⟩⟩
theorem SclsP.of_at {B : Nat} {A : Option Addr} {l : List SclD} (h : SclsAt w B A l) (hB : B ≤ w.heap.size) (hP : ∀ b, b < B → P b) : SclsP w P A l := ⟨.of_flat h.row hB hP, fun x hx => ⟨.of_flat (h.each x hx).cuts hB hP, .of_flat (h.each x hx).pts hB hP⟩⟩
end
/-- An element of an owned row, turned. -/
theorem flat_set {α : Type} {f : α → List Value} {n : Nat} (hn : ∀ x, (f x).length = n) : ∀ (l : List α) (k : Nat) (h : k < l.length) (y : α) (j : Nat) (u : Value), j < n → f y = (f l[k]).set j u → (l.set k y).flatMap f = (l.flatMap f).set (k * n + j) u
  | x :: l, 0, _, y, j, u, hj, e => by
    show f y ++ l.flatMap f = (f x ++ l.flatMap f).set (0 * n + j) u
    rw [Nat.zero_mul, Nat.zero_add, List.set_append_left _ _ (by rw [hn]; exact hj)]
    congr 1
  | x :: l, k + 1, h, y, j, u, hj, e => by
    have h1 := flat_set hn l k (by simpa using h) y j u hj e
    have e2 : (k + 1) * n + j = (f x).length + (k * n + j) := by rw [hn, Nat.succ_mul]; omega
    show f x ++ (l.set k y).flatMap f = (f x ++ l.flatMap f).set ((k + 1) * n + j) u
    rw [h1, e2, List.set_append_right _ _ (by omega), Nat.add_sub_cancel_left]
end Go.Proofs.Ytjiajgmfkdkheaa
