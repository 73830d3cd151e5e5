/- A function that ranges over functions in a loop: the marks among its deferred calls. -/
import Derived.Test.YtpahcbhikmfamaaGreatRP5
import Derived.Test.YtpahcbhikmfamaaGreatBBtw
import Derived.Sort.CutIn
import Derived.Sort.QuietIn
import Derived.Sort.LoopGhostIn
import Derived.Scope

namespace Go.Proofs.YtpahcbhikmfamaaGreat
open Go.RowKit Go.Shelf Go.Maps

def MarkD (lo : Nat) (w : World) (d : Deferred) : Prop := ∃ D, d = { target := .collected D, args := #[] } ∧ lo ≤ D ∧ w.heap[D]? = some (.deferred (some []))
def Marks (lo : Nat) (ds : List Deferred) (w : World) : Prop := ds.Pairwise (· ≠ ·) ∧ ∀ d ∈ ds, MarkD lo w d
abbrev Shut (lo : Nat) (A B : World) : Prop := Kpt (fun b => b < lo ∨ CellsAt A b) A B
theorem Marks.nil (lo : Nat) (w : World) : Marks lo [] w := ⟨List.Pairwise.nil, fun d hd => by cases hd⟩
theorem Marks.kept {lo hi : Nat} {ds : List Deferred} {w w' : World} (h : Marks lo ds w) (hb : Below hi w w') (hh : ∀ D, w.heap[D]? = some (.deferred (some [])) → D < hi) : Marks lo ds w' := ⟨h.1, fun d hd => by
  obtain ⟨D, e, h1, h2⟩ := h.2 d hd
  exact ⟨D, e, h1, (hb.block D (hh D h2)).trans h2⟩⟩
theorem Marks.later {lo : Nat} {ds : List Deferred} {w w' : World} (h : Marks lo ds w) (hb : Below w.heap.size w w') : Marks lo ds w' := h.kept hb (fun _ hD => (Array.getElem?_eq_some_iff.1 hD).1)
/-- One more mark, that lies above all others. -/
theorem Marks.push {lo D : Nat} {ds : List Deferred} {w w' : World} (h : Marks lo ds w) (hk : ∀ b, b < w.heap.size → (∃ o, w.heap[b]? = some o ∧ o.isCells = false) → w'.heap[b]? = w.heap[b]?) (hD : w.heap.size ≤ D) (hlo : lo ≤ D) (hd : w'.heap[D]? = some (.deferred (some []))) : Marks lo ({ target := .collected D, args := #[] } :: ds) w' := by
  refine ⟨List.pairwise_cons.2 ⟨fun d hd' e => ?_, h.1⟩, fun d hd' => ?_⟩
  · obtain ⟨D', e', _, h2⟩ := h.2 d hd'
    subst e'
    simp at e
    have := (Array.getElem?_eq_some_iff.1 h2).1
    omega
  · rcases List.mem_cons.1 hd' with rfl | hd'
    · exact ⟨D, rfl, hlo, hd⟩
    · obtain ⟨D', e', h1, h2⟩ := h.2 d hd'
      exact ⟨D', e', h1, (hk D' (Array.getElem?_eq_some_iff.1 h2).1 ⟨_, h2, rfl⟩).trans h2⟩
theorem leaves_marks {F : Fence} {n : Nat} {P : Program} {fn : Func} {tmps : Array Value} {R : Ending → World → Prop} {lo : Nat} : ∀ (ds : List Deferred) (w : World), Marks lo ds w → (∀ w', Shut lo w w' → LeavesInM F n P fn tmps R [] .returning w') → LeavesInM F n P fn tmps R ds .returning w := by
  intro ds
  induction ds with
  | nil => exact fun w _ h => h w (Kpt.refl _ _)
  | cons d ds ih =>
    intro w hm h
    obtain ⟨hp, hd⟩ := hm
    obtain ⟨h1, h2⟩ := List.pairwise_cons.1 hp
    obtain ⟨D, rfl, hlo, hk⟩ := hd _ (List.mem_cons_self ..)
    refine ⟨by simp, .inl ⟨D, _, rfl, run_takeDeferred hk, ih _ ⟨h2, fun d' hd' => ?_⟩ fun w' hw' => h w' ?_⟩⟩
    · obtain ⟨D', rfl, hlo', hk'⟩ := hd _ (List.mem_cons_of_mem _ hd')
      have hne : D ≠ D' := by rintro rfl; exact h1 _ hd' rfl
      exact ⟨D', rfl, hlo', (World.putObj_heap_other (by omega)).trans hk'⟩
    · have hnD : ∀ b, CellsAt w b → b ≠ D := fun b ⟨o, ho, hc⟩ e => by subst e; rw [hk] at ho; cases ho; cases hc
      have k1 : Kpt (fun b => b < lo ∨ CellsAt w b) w (w.putObj D (.deferred none)) := Kpt.put (fun h => by
        rcases h with h | h
        · omega
        · exact hnD _ h rfl) _
      refine k1.trans (hw'.imp' fun b hb hq => ?_)
      rcases hq with hq | hq
      · exact .inl hq
      · obtain ⟨o, ho, hc⟩ := hq
        exact .inr ⟨o, (World.putObj_heap_other (by have := hnD b ⟨o, ho, hc⟩; omega)).trans ho, hc⟩
theorem noGoto_post {F : Fence} {n : Nat} {P : Program} {fn : Func} {R : Ending → World → Prop} : ∀ e a w, bodyPostM F n P fn R e a w → Exit.noGoto (bodyPostM F n P fn R) e a w := by
  intro e a w h
  cases e <;> exact h
theorem then_false {K : Act → World → Prop} {Q : Exit → Act → World → Prop} : ∀ e a w, Exit.then K (fun _ _ _ => False) e a w → Exit.then K Q e a w := by
  intro e a w h
  cases e <;> first | exact h | exact h.elim
end Go.Proofs.YtpahcbhikmfamaaGreat
