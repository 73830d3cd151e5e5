/- Spans among the arguments. -/
import Derived.Test.YtijhbcmmoagdmaaSOpen
import Derived.Test.YtijhbcmmoagdmaaSBP1

namespace Go.Proofs.Ytijhbcmmoagdmaa
open Go.ChangeShapes Go.WideShapes Go.ChangeAt Go.RowKit Go.Deep Go.Maps
section
variable {H : Type} {enc : TypeId × Value → H} {w : World} {base : Nat} {spare : Nat → Bool} {held : Bool}
set_option maxRecDepth 100000 in
theorem spn_of_trod (m : Nat) (cs : List Value) (x : DataW H × List MemPlace) (h : DataW.trod enc Try.prog w base spare held m 45 cs = some x) :
    ∃ z : Spn, cs = spnC z ∧ True := by
  have hC : Try.prog.cellsOf 45 = 2 := by kernel_rfl
  have kint : Try.prog.cellsOf 3 = 1 := by kernel_rfl
  obtain ⟨xs, n, _, _, hcl, hxl, hg⟩ := DataW.trod_struct Try.underlying45 h
  rw [hC] at hcl
  match cs, hcl with
  | [v0, v1], _ =>
    match xs, hxl with
    | [y0, y1], _ =>
      have g0 : DataW.trod enc Try.prog w base spare held n 3 (([v0, v1].drop 0).take (Try.prog.cellsOf 3)) = [y0, y1][0]? := hg 0 _ rfl
      rw [kint] at g0
      obtain ⟨p0, e0, _, _⟩ := DataW.trod_int Try.underlying3 (show DataW.trod enc Try.prog w base spare held n 3 [v0] = some y0 from g0)
      have g1 : DataW.trod enc Try.prog w base spare held n 3 (([v0, v1].drop 1).take (Try.prog.cellsOf 3)) = [y0, y1][1]? := hg 1 _ rfl
      rw [kint] at g1
      obtain ⟨p1, e1, _, _⟩ := DataW.trod_int Try.underlying3 (show DataW.trod enc Try.prog w base spare held n 3 [v1] = some y1 from g1)
      simp only [List.cons.injEq, and_true] at e0 e1
      subst e0 e1
      exact ⟨⟨p0, p1⟩, rfl, trivial⟩

theorem spns_of_trod {fuel : Nat} {v : Value} {x : DataW H × List MemPlace} (h : DataW.trod enc Try.prog w base spare held fuel 43 [v] = some x) :
    ∃ A c l, v = .slice A (List.length l) c ∧ Flat 2 spnC w w.heap.size A l ∧ (∀ z ∈ l, True) ∧ l.length ≤ maxLen :=
  flat_of_trod (n := 2) (f := spnC) (P := fun _ : Spn => True) (by decide) spnC_len Try.underlying43 (by kernel_rfl) (fun m cs x h hl => spn_of_trod m cs x h) h
end
end Go.Proofs.Ytijhbcmmoagdmaa
