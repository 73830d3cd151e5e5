/- The twin's trees; what it is in the end. -/
import Derived.Test.YtijhbcmmoagdmaaSTwB

namespace Go.Proofs.Ytijhbcmmoagdmaa
open Go.RowKit Go.Maps

theorem Fr.of_below {P : Nat → Prop} {B : Nat} {w w' : World} (h : Below B w w') (hP : ∀ b, P b → b < B) : Fr P w w' := ⟨h.size, fun b _ hp => h.block b (hP b hp)⟩
/-- Cards in blocks with P. -/
structure CP (w : World) (P : Nat → Prop) (A : Option Addr) (l : List CrdD) : Prop where
  row : FlatP 3 crdC w P A l
  each : ∀ x ∈ l, SclsP w P x.S x.scales
section
variable {w w' : World} {P Q : Nat → Prop} {A : Option Addr} {l : List CrdD}
theorem CP.move (h : CP w P A l) (hf : Fr P w w') : CP w' P A l := ⟨h.row.move hf, fun x hx => (h.each x hx).move hf⟩
theorem CP.imp (h : CP w P A l) (hq : ∀ b, b < w.heap.size → P b → Q b) : CP w Q A l := ⟨h.row.imp hq, fun x hx => (h.each x hx).imp hq⟩
theorem CP.at_ (h : CP w P A l) : CrdsAt w w.heap.size A l := ⟨h.row.flat, fun x hx => (h.each x hx).at_⟩
end
theorem TB.cp {b0 n c1 : Nat} {w : World} {A1 : Option Addr} {cl ml : List CrdD} (h : TB b0 w A1 n c1 cl ml) : CP w (fun b => b < b0 ∨ b0 + 1 < b) A1 ml := by
  have h1 := h.own
  rw [← h.len] at h1
  exact ⟨FlatP.of_own crdC_len (by decide) h1 (fun b hb _ _ => .inr (by omega)), fun x hx => (h.each x hx).imp (fun b _ hp => hp.1)⟩
/-- The trees, of which some are new. -/
structure TTB (b0 lo : Nat) (wr : World) (T1 : Option Addr) (n t1 : Nat) (tl ml : List TreD) : Prop where
  eq : ml.map TreD.v = tl.map TreD.v
  len : ml.length = n
  own : wr.ownsRow lo 58 2 (.slice T1 n t1) n (ml.flatMap treC)
  each : ∀ x ∈ ml, FlatP 5 nodC wr (Nt b0 (Value.slice T1 n t1).ownBlock) x.T x.v.nodes
theorem tt_put {b0 lo i n t1 g s1 t0 : Nat} {wr w8 : World} {tl ml : List TreD} {v : Tre} {T0 S1 : Option Addr} (HT : TTB b0 lo wr (some ⟨g, 0, none⟩) n t1 tl ml) (hi : i < ml.length) (hz : ml[i] = ⟨v, T0, t0⟩) (hg : g < wr.heap.size) (h0 : b0 + 1 < wr.heap.size)
    (hb8 : Below wr.heap.size wr w8) (h8 : w8.ownsRow wr.heap.size 74 5 (.slice S1 v.nodes.length s1) v.nodes.length (v.nodes.flatMap nodC)) :
    TTB b0 lo (w8.setCell ⟨g, i * 2 + 1, none⟩ (.slice S1 v.nodes.length s1)) (some ⟨g, 0, none⟩) n t1 tl (ml.set i ⟨v, S1, s1⟩) := by
  have hF : Fr (fun b => b ≠ g) w8 (w8.setCell ⟨g, i * 2 + 1, none⟩ (.slice S1 v.nodes.length s1)) := Fr.set (p := ⟨g, i * 2 + 1, none⟩) (fun e => e rfl) _
  refine ⟨?_, by rw [List.length_set]; exact HT.len, ?_, fun x hx => ?_⟩
  · rw [map_set_same TreD.v ml i hi _ (by rw [hz]), HT.eq]
  · have e1 := flat_set treC_len ml i hi ⟨v, S1, s1⟩ 1 (.slice S1 v.nodes.length s1) (by omega) (by rw [hz]; rfl)
    rw [e1]
    exact ((own_below HT.own hb8).stored (i * 2 + 1) (.slice S1 v.nodes.length s1)).1
  · rcases List.mem_or_eq_of_mem_set hx with h1 | h1
    · exact ((HT.each x h1).move (Fr.below hb8)).move (hF.imp (fun b hp e => hp.2 (by rw [e]; rfl)))
    · subst h1
      exact (FlatP.of_own nodC_len (by decide) h8 (fun b hb _ _ => (⟨.inr (by omega), fun e => by have e2 : b = g := Option.some.inj e; omega⟩ : Nt b0 (some g) b))).move (hF.imp (fun b hp e => hp.2 (by rw [e])))
theorem TTB.at_ {b0 lo n t1 : Nat} {wr : World} {T1 : Option Addr} {tl ml : List TreD} (h : TTB b0 lo wr T1 n t1 tl ml) : TresAt wr wr.heap.size T1 ml := by
  have h1 := h.own
  rw [← h.len] at h1
  exact ⟨Flat.of_own treC_len (by decide) h1, fun x hx => (h.each x hx).flat⟩
/-- What the twin of a model is. -/
def TwinS (w : World) (traits need : Int) (cl : List CrdD) (tl : List TreD) (e : Ending) (w' : World) : Prop :=
  ∃ cl' tl' C' c' T' t', e = .returned (.agg #[.int .i64 traits, .slice C' (List.length cl') c', .slice T' (List.length tl') t', .int .i64 need]) ∧ cl'.map CrdD.v = cl.map CrdD.v ∧ tl'.map TreD.v = tl.map TreD.v ∧ MdlAt w' w'.heap.size ⟨traits, cl', C', c', tl', T', t', need⟩ ∧ Below w.heap.size w w'
/-- As large as the other one. -/
theorem MdlLe.twin {traits traits' need need' : Int} {cl cl' : List CrdD} {tl tl' : List TreD} {C C' T T' : Option Addr} {c c' t t' : Nat} (h : MdlLe ⟨traits, cl, C, c, tl, T, t, need⟩) (hc : cl'.map CrdD.v = cl.map CrdD.v) (ht : tl'.map TreD.v = tl.map TreD.v) : MdlLe ⟨traits', cl', C', c', tl', T', t', need'⟩ := by
  have e1 : cl'.length = cl.length := by simpa using congrArg List.length hc
  have e2 : tl'.length = tl.length := by simpa using congrArg List.length ht
  have hcm : ∀ x ∈ cl', ∃ y ∈ cl, x.scales.map SclD.v = y.scales.map SclD.v := fun x hx => by
    have h1 : x.v ∈ cl.map CrdD.v := by rw [← hc]; exact List.mem_map_of_mem hx
    obtain ⟨y, hy, e⟩ := List.mem_map.1 h1
    exact ⟨y, hy, (congrArg Crd.scales e).symm⟩
  refine ⟨?_, ?_, fun x hx => ?_, fun x hx s hs => ?_, fun x hx => ?_⟩
  · have := h.cards; simp only at this ⊢; omega
  · have := h.trees; simp only at this ⊢; omega
  · obtain ⟨y, hy, e⟩ := hcm x hx
    have h2 : x.scales.length = y.scales.length := by simpa using congrArg List.length e
    rw [h2]
    exact h.scales y hy
  · obtain ⟨y, hy, e⟩ := hcm x hx
    have h2 : s.v ∈ y.scales.map SclD.v := by rw [← e]; exact List.mem_map_of_mem hs
    obtain ⟨z, hz, e3⟩ := List.mem_map.1 h2
    rw [← e3]
    exact h.scl y hy z hz
  · have h1 : x.v ∈ tl.map TreD.v := by rw [← ht]; exact List.mem_map_of_mem hx
    obtain ⟨y, hy, e⟩ := List.mem_map.1 h1
    rw [← e]
    exact h.nodes y hy
end Go.Proofs.Ytijhbcmmoagdmaa
