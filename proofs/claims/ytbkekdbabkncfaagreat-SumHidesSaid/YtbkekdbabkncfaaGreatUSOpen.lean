/- Tables and questions among the arguments, opened. Written by open.py. -/
import Derived.Test.YtbkekdbabkncfaaGreatD2
import Derived.Deep.Strs
import Derived.Lib.SmallJoins
import Derived.ProofKit
import Derived.OpenShut

namespace Go.Proofs.YtbkekdbabkncfaaGreat
open Go.ChangeShapes Go.WideShapes Go.ChangeAt Go.RowKit Go.Deep

section
variable {H : Type} {enc : TypeId × Value → H} {w : World} {base : Nat} {spare : Nat → Bool} {held : Bool}

theorem plain_of_cell {w : World} {a : Addr} {v : Value} (h : w.cell? a = some v) : a = ⟨a.block, a.off, none⟩ := by
  obtain ⟨b, o, s⟩ := a
  cases s with
  | none => rfl
  | some s => exfalso; unfold World.cell? at h; split at h <;> simp at h

set_option maxRecDepth 100000 in
/-- A slice whose elements open. -/
theorem flat_of_trod {α : Type} [Inhabited α] {n : Nat} {f : α → List Value} {P : α → Prop} (h0 : 0 < n) (hn : ∀ z, (f z).length = n) {ts te : TypeId} (hT : Tryz.prog.underlying ts = some (.slice te)) (hC : Tryz.prog.cellsOf te = n)
    (each : ∀ (m : Nat) (cs : List Value) (x : DataW H × List MemPlace), DataW.trod enc Tryz.prog w base spare held m te cs = some x → cs.length = n → ∃ z : α, cs = f z ∧ P z) {fuel : Nat} {v : Value} {x : DataW H × List MemPlace} (h : DataW.trod enc Tryz.prog w base spare held fuel ts [v] = some x) :
    ∃ A c l, v = .slice A (List.length l) c ∧ Flat n f w w.heap.size A l ∧ (∀ z ∈ l, P z) ∧ l.length ≤ maxLen := by
  rcases open_slice hT h with ⟨hc, _⟩ | ⟨a, len, cap, m, n', Dx, Pl, hc, _, hl, hm, hmm, _, hcell⟩
  · simp only [List.cons.injEq, and_true] at hc
    exact ⟨none, 0, [], by simpa using hc, Flat.nil _ _ _ _ _, fun z hz => by simp at hz, by simp [maxLen]⟩
  · simp only [List.cons.injEq, and_true] at hc
    have hlm : len ≤ m := by rw [hmm]; split <;> omega
    have each' : ∀ i, i < len → ∃ z : α, (∀ j, j < n → w.cell? (a.add (i * n + j)) = (f z)[j]?) ∧ P z := fun i hi => by
      obtain ⟨cs', h1, h2⟩ := hcell i (by omega)
      rw [hC] at h1
      obtain ⟨_, hlen, hat⟩ := World.cells?_some h1
      obtain ⟨z, rfl, hz⟩ := each _ _ _ h2 hlen
      refine ⟨z, fun j hj => ?_, hz⟩
      rw [← Go.Addr.add_add, hat j (by omega)]
    obtain ⟨S, hS⟩ := choose_lt each'
    refine ⟨some a, cap, (List.range len).map S, by rw [hc]; simp, fun k hk => ?_, fun z hz => ?_, by simp; omega⟩
    · simp only [List.length_map, List.length_range] at hk
      obtain ⟨h1, _⟩ := hS k hk
      obtain ⟨g1, _⟩ := hS 0 (by omega)
      have h00 := g1 0 h0
      have hf0 : ∃ u, (f (S 0))[0]? = some u := ⟨_, List.getElem?_eq_getElem (by rw [hn]; exact h0)⟩
      obtain ⟨u, hu⟩ := hf0
      rw [Nat.zero_mul, Nat.add_zero, Addr.add_zero', hu] at h00
      have hp := plain_of_cell h00
      have hlt := block_lt_of_cell h00
      refine ⟨a.block, a.off, by rw [← hp], hlt, fun i hi => ?_⟩
      have := h1 i hi
      rw [hp, add_plain] at this
      simpa [Nat.add_assoc] using this
    · obtain ⟨k, hk, rfl⟩ := List.mem_map.1 hz
      exact (hS k (by simpa using hk)).2

theorem int_of_trod (m : Nat) (cs : List Value) (x : DataW H × List MemPlace) (h : DataW.trod enc Tryz.prog w base spare held m 3 cs = some x) (hl : cs.length = 1) : ∃ z : Int, cs = intC z ∧ (Lit.int .i64 z).wf = true := by
  match cs, hl with
  | [v], _ =>
    obtain ⟨p, e, _, wf⟩ := DataW.trod_int Tryz.underlying3 h
    exact ⟨p, e, wf⟩
theorem ints_of_trod {fuel : Nat} {v : Value} {x : DataW H × List MemPlace} (h : DataW.trod enc Tryz.prog w base spare held fuel 32 [v] = some x) :
    ∃ A c l, v = .slice A (List.length l) c ∧ Flat 1 intC w w.heap.size A l ∧ (∀ z ∈ l, (Lit.int .i64 z).wf = true) ∧ l.length ≤ maxLen :=
  flat_of_trod (P := fun z => (Lit.int .i64 z).wf = true) (by decide) intC_len Tryz.underlying32 (by kernel_rfl) (fun m cs x h hl => int_of_trod m cs x h hl) h

set_option maxRecDepth 100000 in
theorem sub_of_trod (m : Nat) (cs : List Value) (x : DataW H × List MemPlace) (h : DataW.trod enc Tryz.prog w base spare held m 56 cs = some x) :
    ∃ z : SubD, cs = subC z ∧ IntsAt w w.heap.size z.V z.v.vals ∧ z.v.vals.length ≤ maxLen := by
  have hC : Tryz.prog.cellsOf 56 = 2 := by kernel_rfl
  have kint : Tryz.prog.cellsOf 3 = 1 := by kernel_rfl
  have ks0 : Tryz.prog.cellsOf 32 = 1 := by kernel_rfl
  obtain ⟨xs, n, _, _, hcl, hxl, hg⟩ := DataW.trod_struct Tryz.underlying56 h
  rw [hC] at hcl
  match cs, hcl with
  | [v0, v1], _ =>
    match xs, hxl with
    | [y0, y1], _ =>
      have g0 : DataW.trod enc Tryz.prog w base spare held n 3 (([v0, v1].drop 0).take (Tryz.prog.cellsOf 3)) = [y0, y1][0]? := hg 0 _ rfl
      rw [kint] at g0
      obtain ⟨p0, e0, _, wf0⟩ := DataW.trod_int Tryz.underlying3 (show DataW.trod enc Tryz.prog w base spare held n 3 [v0] = some y0 from g0)
      have g1 : DataW.trod enc Tryz.prog w base spare held n 32 (([v0, v1].drop 1).take (Tryz.prog.cellsOf 32)) = [y0, y1][1]? := hg 1 _ rfl
      rw [ks0] at g1
      obtain ⟨A1, a1, l1, e1, hl1, hP1, hm1⟩ := ints_of_trod (show DataW.trod enc Tryz.prog w base spare held n 32 [v1] = some y1 from g1)
      simp only [List.cons.injEq, and_true] at e0
      subst e0 e1
      exact ⟨⟨⟨p0, l1⟩, A1, a1⟩, rfl, hl1, hm1⟩

theorem subs_of_trod {fuel : Nat} {v : Value} {x : DataW H × List MemPlace} (h : DataW.trod enc Tryz.prog w base spare held fuel 30 [v] = some x) :
    ∃ A c l, v = .slice A (List.length l) c ∧ Flat 2 subC w w.heap.size A l ∧ (∀ z ∈ l, IntsAt w w.heap.size z.V z.v.vals ∧ z.v.vals.length ≤ maxLen) ∧ l.length ≤ maxLen :=
  flat_of_trod (P := fun z => IntsAt w w.heap.size z.V z.v.vals ∧ z.v.vals.length ≤ maxLen) (by decide) subC_len Tryz.underlying30 (by kernel_rfl) (fun m cs x h hl => sub_of_trod m cs x h) h

set_option maxRecDepth 100000 in
theorem whe_of_trod (m : Nat) (cs : List Value) (x : DataW H × List MemPlace) (h : DataW.trod enc Tryz.prog w base spare held m 68 cs = some x) :
    ∃ z : Whe, cs = wheC z ∧ True := by
  have hC : Tryz.prog.cellsOf 68 = 3 := by kernel_rfl
  have kint : Tryz.prog.cellsOf 3 = 1 := by kernel_rfl
  obtain ⟨xs, n, _, _, hcl, hxl, hg⟩ := DataW.trod_struct Tryz.underlying68 h
  rw [hC] at hcl
  match cs, hcl with
  | [v0, v1, v2], _ =>
    match xs, hxl with
    | [y0, y1, y2], _ =>
      have g0 : DataW.trod enc Tryz.prog w base spare held n 3 (([v0, v1, v2].drop 0).take (Tryz.prog.cellsOf 3)) = [y0, y1, y2][0]? := hg 0 _ rfl
      rw [kint] at g0
      obtain ⟨p0, e0, _, wf0⟩ := DataW.trod_int Tryz.underlying3 (show DataW.trod enc Tryz.prog w base spare held n 3 [v0] = some y0 from g0)
      have g1 : DataW.trod enc Tryz.prog w base spare held n 3 (([v0, v1, v2].drop 1).take (Tryz.prog.cellsOf 3)) = [y0, y1, y2][1]? := hg 1 _ rfl
      rw [kint] at g1
      obtain ⟨p1, e1, _, wf1⟩ := DataW.trod_int Tryz.underlying3 (show DataW.trod enc Tryz.prog w base spare held n 3 [v1] = some y1 from g1)
      have g2 : DataW.trod enc Tryz.prog w base spare held n 3 (([v0, v1, v2].drop 2).take (Tryz.prog.cellsOf 3)) = [y0, y1, y2][2]? := hg 2 _ rfl
      rw [kint] at g2
      obtain ⟨p2, e2, _, wf2⟩ := DataW.trod_int Tryz.underlying3 (show DataW.trod enc Tryz.prog w base spare held n 3 [v2] = some y2 from g2)
      simp only [List.cons.injEq, and_true] at e0 e1 e2
      subst e0 e1 e2
      exact ⟨⟨p0, p1, p2⟩, rfl, trivial⟩

theorem whes_of_trod {fuel : Nat} {v : Value} {x : DataW H × List MemPlace} (h : DataW.trod enc Tryz.prog w base spare held fuel 23 [v] = some x) :
    ∃ A c l, v = .slice A (List.length l) c ∧ Flat 3 wheC w w.heap.size A l ∧ (∀ z ∈ l, True) ∧ l.length ≤ maxLen :=
  flat_of_trod (P := fun z => True) (by decide) wheC_len Tryz.underlying23 (by kernel_rfl) (fun m cs x h hl => whe_of_trod m cs x h) h

set_option maxRecDepth 100000 in
theorem que_of_trod (m : Nat) (cs : List Value) (x : DataW H × List MemPlace) (h : DataW.trod enc Tryz.prog w base spare held m 25 cs = some x) :
    ∃ z : QueD, cs = queC z ∧ WhesAt w w.heap.size z.W z.v.wheres ∧ z.v.wheres.length ≤ maxLen := by
  have hC : Tryz.prog.cellsOf 25 = 4 := by kernel_rfl
  have kint : Tryz.prog.cellsOf 3 = 1 := by kernel_rfl
  have ks0 : Tryz.prog.cellsOf 23 = 1 := by kernel_rfl
  obtain ⟨xs, n, _, _, hcl, hxl, hg⟩ := DataW.trod_struct Tryz.underlying25 h
  rw [hC] at hcl
  match cs, hcl with
  | [v0, v1, v2, v3], _ =>
    match xs, hxl with
    | [y0, y1, y2, y3], _ =>
      have g0 : DataW.trod enc Tryz.prog w base spare held n 23 (([v0, v1, v2, v3].drop 0).take (Tryz.prog.cellsOf 23)) = [y0, y1, y2, y3][0]? := hg 0 _ rfl
      rw [ks0] at g0
      obtain ⟨A0, a0, l0, e0, hl0, hP0, hm0⟩ := whes_of_trod (show DataW.trod enc Tryz.prog w base spare held n 23 [v0] = some y0 from g0)
      have g1 : DataW.trod enc Tryz.prog w base spare held n 3 (([v0, v1, v2, v3].drop 1).take (Tryz.prog.cellsOf 3)) = [y0, y1, y2, y3][1]? := hg 1 _ rfl
      rw [kint] at g1
      obtain ⟨p1, e1, _, wf1⟩ := DataW.trod_int Tryz.underlying3 (show DataW.trod enc Tryz.prog w base spare held n 3 [v1] = some y1 from g1)
      have g2 : DataW.trod enc Tryz.prog w base spare held n 3 (([v0, v1, v2, v3].drop 2).take (Tryz.prog.cellsOf 3)) = [y0, y1, y2, y3][2]? := hg 2 _ rfl
      rw [kint] at g2
      obtain ⟨p2, e2, _, wf2⟩ := DataW.trod_int Tryz.underlying3 (show DataW.trod enc Tryz.prog w base spare held n 3 [v2] = some y2 from g2)
      have g3 : DataW.trod enc Tryz.prog w base spare held n 3 (([v0, v1, v2, v3].drop 3).take (Tryz.prog.cellsOf 3)) = [y0, y1, y2, y3][3]? := hg 3 _ rfl
      rw [kint] at g3
      obtain ⟨p3, e3, _, wf3⟩ := DataW.trod_int Tryz.underlying3 (show DataW.trod enc Tryz.prog w base spare held n 3 [v3] = some y3 from g3)
      simp only [List.cons.injEq, and_true] at e1 e2 e3
      subst e0 e1 e2 e3
      exact ⟨⟨⟨l0, p1, p2, p3⟩, A0, a0⟩, rfl, hl0, hm0⟩

instance : Inhabited QueD := ⟨⟨⟨[], 0, 0, 0⟩, none, 0⟩⟩
theorem ques_of_trod {fuel : Nat} {v : Value} {x : DataW H × List MemPlace} (h : DataW.trod enc Tryz.prog w base spare held fuel 35 [v] = some x) :
    ∃ A c l, v = .slice A (List.length l) c ∧ Flat 4 queC w w.heap.size A l ∧ (∀ z ∈ l, WhesAt w w.heap.size z.W z.v.wheres ∧ z.v.wheres.length ≤ maxLen) ∧ l.length ≤ maxLen :=
  flat_of_trod (P := fun z => WhesAt w w.heap.size z.W z.v.wheres ∧ z.v.wheres.length ≤ maxLen) (by decide) queC_len Tryz.underlying35 (by kernel_rfl) (fun m cs x h hl => que_of_trod m cs x h) h

end
end Go.Proofs.YtbkekdbabkncfaaGreat
