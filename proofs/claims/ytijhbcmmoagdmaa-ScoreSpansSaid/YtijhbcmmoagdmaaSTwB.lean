/- The twin of a model, by the reference. Written by a program. -/
import Derived.Test.YtijhbcmmoagdmaaSTwA
import Derived.Test.YtijhbcmmoagdmaaSRef6
import Derived.Deep.RegionLawGrows
import Derived.Deep.AppendSrc

namespace Go.Proofs.Ytijhbcmmoagdmaa
open Go.RowKit Go.Maps

theorem mod4_put {w : World} {g : Nat} {a0 a1 a2 a3 c1 : Value} {t : TypeId} (h : Blk w g #[a0, a1, a2, a3] t) : Blk (w.setCell ⟨g, 1, none⟩ c1) g #[a0, c1, a2, a3] t := by
  have := h.set 1 c1
  simpa using this
/-- Neither the model's block nor the answer's, nor a row's. -/
def Nt (b0 : Nat) (row : Option Nat) (b : Nat) : Prop := (b < b0 ∨ b0 + 1 < b) ∧ some b ≠ row
/-- The cards, of which some are new. -/
structure TB (b0 : Nat) (wr : World) (A1 : Option Addr) (n c1 : Nat) (cl ml : List CrdD) : Prop where
  eq : ml.map CrdD.v = cl.map CrdD.v
  len : ml.length = n
  own : wr.ownsRow (b0 + 1 + 1) 53 3 (.slice A1 n c1) n (ml.flatMap crdC)
  each : ∀ x ∈ ml, SclsP wr (Nt b0 (Value.slice A1 n c1).ownBlock) x.S x.scales

/-- The scales of one card, of which some are new. -/
structure SI (b0 g lo : Nat) (wr : World) (S1 : Option Addr) (n s1 : Nat) (sl sl2 : List SclD) : Prop where
  eq : sl2.map SclD.v = sl.map SclD.v
  len : sl2.length = n
  own : wr.ownsRow lo 55 3 (.slice S1 n s1) n (sl2.flatMap sclC)
  each : ∀ x ∈ sl2, SclP wr (fun b => Nt b0 (some g) b ∧ some b ≠ (Value.slice S1 n s1).ownBlock) x
theorem grown_fresh {B g n c : Nat} {w W w' : World} (hg : W.grownBy w' (Value.slice (some ⟨g, 0, none⟩) n c).ownBlock) (hB : Below B w W) (hb : B ≤ W.heap.size) (hBg : B ≤ g) : Below B w w' := hB.grown hg hb (fun k e => by have e2 : g = k := Option.some.inj e; omega)
theorem blk_fresh {g g' n c : Nat} {W w' : World} {cs : Array Value} {t : TypeId} (hg : W.grownBy w' (Value.slice (some ⟨g, 0, none⟩) n c).ownBlock) (h : Blk W g' cs t) (hne : g' ≠ g) : Blk w' g' cs t := h.grown hg (fun e => hne (Option.some.inj e))
theorem own_blk {W : World} {g base size : Nat} {t : TypeId} (h : Blk W g #[] t) (hb : base ≤ g) : W.ownsRow base t size (.slice (some ⟨g, 0, none⟩) 0 0) 0 [] :=
  ⟨by simp, .inr ⟨g, 0, #[], rfl, hb, h, Nat.le_refl _, by simp [maxLen], by simp, by simp⟩⟩

theorem own_fr {w w' : World} {P : Nat → Prop} {base : Nat} {e : TypeId} {size n : Nat} {v : Value} {xs : List Value} (h : w.ownsRow base e size v n xs) (hF : Fr P w w') (hP : ∀ g, v.ownBlock = some g → P g) : w'.ownsRow base e size v n xs := by
  refine ⟨h.1, ?_⟩
  rcases h.2 with h0 | ⟨g, cap, cur, h1, h2, h3, h4⟩
  · exact .inl h0
  · exact .inr ⟨g, cap, cur, h1, h2, (hF.blk g (Array.getElem?_eq_some_iff.1 h3).1 (hP g (by rw [h1]; rfl))).trans h3, h4⟩
theorem map_set_same {α β : Type} (f : α → β) (l : List α) (i : Nat) (h : i < l.length) (y : α) (hy : f y = f l[i]) : (l.set i y).map f = l.map f := by
  apply List.ext_getElem
  · simp
  · intro q h1 h2
    rw [List.getElem_map, List.getElem_map, List.getElem_set]
    split
    · rename_i e; subst e; exact hy
    · rfl
theorem tb_set {b0 g i n c1 s s1 : Nat} {w0 wc we : World} {cl ml : List CrdD} {wt base : Int} {sl sl2 : List SclD} {S S1 : Option Addr} (HT : TB b0 w0 (some ⟨g, 0, none⟩) n c1 cl ml) (hi : i < ml.length) (hY : ml[i] = ⟨wt, base, sl, S, s⟩)
    (oC : wc.ownsRow (b0 + 1 + 1) 53 3 (.slice (some ⟨g, 0, none⟩) n c1) n ((ml.flatMap crdC).set (i * 3 + 2) (.slice S1 sl.length s1))) (hF : Fr (fun b => b ≠ g) w0 wc) (hFk : Fr (fun b => some b ≠ (Value.slice S1 sl.length s1).ownBlock) wc we)
    (HS : SI b0 g w0.heap.size we S1 sl.length s1 sl sl2) (hb0 : b0 + 1 < w0.heap.size) (hg : g < w0.heap.size) : TB b0 we (some ⟨g, 0, none⟩) n c1 cl (ml.set i ⟨wt, base, sl2, S1, s1⟩) := by
  have hS1 : ∀ b, b < w0.heap.size → some b ≠ (Value.slice S1 sl.length s1).ownBlock := fun b hb e => by have := (HS.own.lt b e.symm).1; omega
  refine ⟨?_, by rw [List.length_set]; exact HT.len, ?_, fun x hx => ?_⟩
  · rw [map_set_same CrdD.v ml i hi _ (by rw [hY]; simp only [CrdD.v]; rw [HS.eq]), HT.eq]
  · have e := flat_set crdC_len ml i hi ⟨wt, base, sl2, S1, s1⟩ 2 (.slice S1 sl.length s1) (by omega) (by rw [hY]; simp only [crdC]; rw [HS.len]; rfl)
    rw [e]
    exact own_fr oC hFk (fun g' e' => by cases e'; exact hS1 g hg)
  · rcases List.mem_or_eq_of_mem_set hx with h1 | h1
    · have h2 := (HT.each x h1).imp (Q := fun b => Nt b0 (some g) b ∧ some b ≠ (Value.slice S1 sl.length s1).ownBlock) (fun b hb hp => ⟨hp, hS1 b hb⟩)
      exact ((h2.move (hF.imp (fun b hp e => hp.1.2 (by rw [e])))).move (hFk.imp (fun b hp => hp.2))).imp (fun b _ hp => hp.1)
    · subst h1
      refine ⟨?_, fun y hy => (HS.each y hy).imp (fun b _ hp => hp.1)⟩
      have h3 := HS.own
      rw [← HS.len] at h3
      exact FlatP.of_own sclC_len (by decide) h3 (fun b hb1 _ _ => ⟨.inr (by omega), fun e' => by have e2 : b = g := Option.some.inj e'; omega⟩)
/-- What is appended to one row stays when another row is appended to. -/
theorem own_over {lo f9 n size : Nat} {w8 W2 w9 : World} {e : TypeId} {v : Value} {xs : List Value} {row : Option Nat} (h8 : w8.ownsRow lo e size v n xs) (hB : Below w8.heap.size w8 W2) (hg : W2.grownBy w9 row) (hr : row = some f9) (hne : ∀ b, v.ownBlock = some b → b ≠ f9) : w9.ownsRow lo e size v n xs := by
  subst hr
  have h2 := own_below h8 hB
  refine ⟨h2.1, ?_⟩
  rcases h2.2 with h0 | ⟨g, cap, cur, h1, h3, h4, h5⟩
  · exact .inl h0
  · exact .inr ⟨g, cap, cur, h1, h3, (hg.block g (Array.getElem?_eq_some_iff.1 h4).1 (fun e' => hne g (by rw [h1]; rfl) (Option.some.inj e'))).trans h4, h5⟩
/-- Its block is the fresh one, or newer than all. -/
theorem fresh_ne {v : Value} {f8 f9 s : Nat} {r : Option Nat} (ho : v.ownBlock = r ∨ v.ownBlock = some s) (hr : r = some f8) (h1 : f8 ≠ f9) (h2 : s ≠ f9) : ∀ b, v.ownBlock = some b → b ≠ f9 := by
  subst hr
  intro b hb
  rcases ho with e | e <;> (rw [hb] at e; have := Option.some.inj e; omega)
/-- A scale in new memory. -/
theorem si_put {b0 g lo k n s1 gs q8 q9 a b : Nat} {w0 w9 : World} {sl sl2 : List SclD} {v : Scl} {A B A8 A9 : Option Addr} (HS : SI b0 g lo w0 (some ⟨gs, 0, none⟩) n s1 sl sl2) (hk : k < sl2.length) (hz : sl2[k] = ⟨v, A, a, B, b⟩) (hgs : gs < w0.heap.size) (_hlo : lo ≤ gs) (h0 : b0 + 1 < w0.heap.size) (hg0 : g < w0.heap.size)
    (hb9 : Below w0.heap.size w0 w9) (h8 : w9.ownsRow w0.heap.size 3 1 (.slice A8 v.cuts.length q8) v.cuts.length (v.cuts.flatMap intC)) (h9 : w9.ownsRow w0.heap.size 3 1 (.slice A9 v.pts.length q9) v.pts.length (v.pts.flatMap intC)) :
    SI b0 g lo ((w9.setCell ⟨gs, k * 3, none⟩ (.slice A8 v.cuts.length q8)).setCell ⟨gs, k * 3 + 1, none⟩ (.slice A9 v.pts.length q9)) (some ⟨gs, 0, none⟩) n s1 sl (sl2.set k ⟨v, A8, q8, A9, q9⟩) := by
  have hF : Fr (fun b => b ≠ gs) w9 ((w9.setCell ⟨gs, k * 3, none⟩ (.slice A8 v.cuts.length q8)).setCell ⟨gs, k * 3 + 1, none⟩ (.slice A9 v.pts.length q9)) := (Fr.set (p := ⟨gs, k * 3, none⟩) (fun e => e rfl) _).trans (Fr.set (p := ⟨gs, k * 3 + 1, none⟩) (fun e => e rfl) _)
  refine ⟨?_, by rw [List.length_set]; exact HS.len, ?_, fun x hx => ?_⟩
  · rw [map_set_same SclD.v sl2 k hk _ (by rw [hz]), HS.eq]
  · have e1 := flat_set sclC_len sl2 k hk ⟨v, A8, q8, B, b⟩ 0 (.slice A8 v.cuts.length q8) (by omega) (by rw [hz]; rfl)
    have e2 := flat_set sclC_len (sl2.set k ⟨v, A8, q8, B, b⟩) k (by rw [List.length_set]; exact hk) ⟨v, A8, q8, A9, q9⟩ 1 (.slice A9 v.pts.length q9) (by omega) (by rw [List.getElem_set_self]; rfl)
    rw [List.set_set] at e2
    rw [e2, e1, Nat.add_zero]
    exact (((own_below HS.own hb9).stored (k * 3) (.slice A8 v.cuts.length q8)).1.stored (k * 3 + 1) (.slice A9 v.pts.length q9)).1
  · have hP : ∀ b, w0.heap.size ≤ b → Nt b0 (some g) b ∧ some b ≠ (Value.slice (some ⟨gs, 0, none⟩) n s1).ownBlock := fun b hb => ⟨⟨.inr (by omega), fun e => by have := Option.some.inj e; omega⟩, fun e => by have e2 : b = gs := Option.some.inj e; omega⟩
    rcases List.mem_or_eq_of_mem_set hx with h1 | h1
    · exact ((HS.each x h1).move (Fr.below hb9)).move (hF.imp (fun b hp e => hp.2 (by rw [e]; rfl)))
    · subst h1
      refine ⟨(FlatP.of_own intC_len (by decide) h8 (fun b hb _ _ => hP b hb)).move (hF.imp (fun b hp e => hp.2 (by rw [e]; rfl))), (FlatP.of_own intC_len (by decide) h9 (fun b hb _ _ => hP b hb)).move (hF.imp (fun b hp e => hp.2 (by rw [e]; rfl)))⟩
end Go.Proofs.Ytijhbcmmoagdmaa
