/- Models and lists of numbers among the arguments, opened. -/
import Derived.Test.YtpahcbhikmfamaaGreatSPrg1
import Derived.Deep.Strs
import Derived.Lib.SmallJoins
import Derived.ProofKit
import Derived.OpenShut
import Derived.Test.YtpahcbhikmfamaaGreatSBP1
import Derived.Test.YtpahcbhikmfamaaGreatWP1

namespace Go.Proofs.YtpahcbhikmfamaaGreat
open Go.ChangeShapes Go.WideShapes Go.ChangeAt Go.RowKit Go.Deep

section
variable {H : Type} {enc : TypeId × Value → H} {w : World} {base : Nat} {spare : Nat → Bool} {held : Bool}

theorem plain_of_cell {w : World} {a : Addr} {v : Value} (h : w.cell? a = some v) : a = ⟨a.block, a.off, none⟩ := by
  obtain ⟨b, o, s⟩ := a
  cases s with
  | none => rfl
  | some s => exfalso; unfold World.cell? at h; split at h <;> simp at h

set_option maxRecDepth 100000 in
/-- A slice whose elements open. -/
theorem flat_of_trod {α : Type} [Inhabited α] {n : Nat} {f : α → List Value} {P : α → Prop} (h0 : 0 < n) (hn : ∀ z, (f z).length = n) {ts te : TypeId} (hT : Tryz.prog.underlying ts = some (.slice te)) (hC : Tryz.prog.cellsOf te = n)
    (each : ∀ (m : Nat) (cs : List Value) (x : DataW H × List MemPlace), DataW.trod enc Tryz.prog w base spare held m te cs = some x → cs.length = n → ∃ z : α, cs = f z ∧ P z) {fuel : Nat} {v : Value} {x : DataW H × List MemPlace} (h : DataW.trod enc Tryz.prog w base spare held fuel ts [v] = some x) :
    ∃ A c l, v = .slice A (List.length l) c ∧ Flat n f w w.heap.size A l ∧ (∀ z ∈ l, P z) ∧ l.length ≤ maxLen := by
  rcases open_slice hT h with ⟨hc, _⟩ | ⟨a, len, cap, m, n', Dx, Pl, hc, _, hl, hm, hmm, _, hcell⟩
  · simp only [List.cons.injEq, and_true] at hc
    exact ⟨none, 0, [], by simpa using hc, Flat.nil _ _ _ _ _, fun z hz => by simp at hz, by simp [maxLen]⟩
  · simp only [List.cons.injEq, and_true] at hc
    have hlm : len ≤ m := by rw [hmm]; split <;> omega
    have each' : ∀ i, i < len → ∃ z : α, (∀ j, j < n → w.cell? (a.add (i * n + j)) = (f z)[j]?) ∧ P z := fun i hi => by
      obtain ⟨cs', h1, h2⟩ := hcell i (by omega)
      rw [hC] at h1
      obtain ⟨_, hlen, hat⟩ := World.cells?_some h1
      obtain ⟨z, rfl, hz⟩ := each _ _ _ h2 hlen
      refine ⟨z, fun j hj => ?_, hz⟩
      rw [← Go.Addr.add_add, hat j (by omega)]
    obtain ⟨S, hS⟩ := choose_lt each'
    refine ⟨some a, cap, (List.range len).map S, by rw [hc]; simp, fun k hk => ?_, fun z hz => ?_, by simp; omega⟩
    · simp only [List.length_map, List.length_range] at hk
      obtain ⟨h1, _⟩ := hS k hk
      obtain ⟨g1, _⟩ := hS 0 (by omega)
      have h00 := g1 0 h0
      have hf0 : ∃ u, (f (S 0))[0]? = some u := ⟨_, List.getElem?_eq_getElem (by rw [hn]; exact h0)⟩
      obtain ⟨u, hu⟩ := hf0
      rw [Nat.zero_mul, Nat.add_zero, Addr.add_zero', hu] at h00
      have hp := plain_of_cell h00
      have hlt := block_lt_of_cell h00
      refine ⟨a.block, a.off, by rw [← hp], hlt, fun i hi => ?_⟩
      have := h1 i hi
      rw [hp, add_plain] at this
      simpa [Nat.add_assoc] using this
    · obtain ⟨k, hk, rfl⟩ := List.mem_map.1 hz
      exact (hS k (by simpa using hk)).2

instance : Inhabited CrdD := ⟨⟨0, 0, [], none, 0⟩⟩
theorem int_of_trod (m : Nat) (cs : List Value) (x : DataW H × List MemPlace) (h : DataW.trod enc Tryz.prog w base spare held m 3 cs = some x) (hl : cs.length = 1) : ∃ z : Int, cs = intC z ∧ (Lit.int .i64 z).wf = true := by
  match cs, hl with
  | [v], _ =>
    obtain ⟨p, e, _, wf⟩ := DataW.trod_int Tryz.underlying3 h
    exact ⟨p, e, wf⟩
theorem ints_of_trod {fuel : Nat} {v : Value} {x : DataW H × List MemPlace} (h : DataW.trod enc Tryz.prog w base spare held fuel 26 [v] = some x) :
    ∃ A c l, v = .slice A (List.length l) c ∧ Flat 1 intC w w.heap.size A l ∧ (∀ z ∈ l, (Lit.int .i64 z).wf = true) ∧ l.length ≤ maxLen :=
  flat_of_trod (P := fun z => (Lit.int .i64 z).wf = true) (by decide) intC_len Tryz.underlying26 (by kernel_rfl) (fun m cs x h hl => int_of_trod m cs x h hl) h

set_option maxRecDepth 100000 in
theorem scl_of_trod (m : Nat) (cs : List Value) (x : DataW H × List MemPlace) (h : DataW.trod enc Tryz.prog w base spare held m 42 cs = some x) :
    ∃ z : SclD, cs = sclC z ∧ SclAt w w.heap.size z := by
  have hC : Tryz.prog.cellsOf 42 = 3 := by kernel_rfl
  have kint : Tryz.prog.cellsOf 3 = 1 := by kernel_rfl
  have ks0 : Tryz.prog.cellsOf 26 = 1 := by kernel_rfl
  obtain ⟨xs, n, _, _, hcl, hxl, hg⟩ := DataW.trod_struct Tryz.underlying42 h
  rw [hC] at hcl
  match cs, hcl with
  | [v0, v1, v2], _ =>
    match xs, hxl with
    | [y0, y1, y2], _ =>
      have g0 : DataW.trod enc Tryz.prog w base spare held n 26 (([v0, v1, v2].drop 0).take (Tryz.prog.cellsOf 26)) = [y0, y1, y2][0]? := hg 0 _ rfl
      rw [ks0] at g0
      obtain ⟨A0, a0, l0, e0, hl0, hP0, _⟩ := ints_of_trod (show DataW.trod enc Tryz.prog w base spare held n 26 [v0] = some y0 from g0)
      have g1 : DataW.trod enc Tryz.prog w base spare held n 26 (([v0, v1, v2].drop 1).take (Tryz.prog.cellsOf 26)) = [y0, y1, y2][1]? := hg 1 _ rfl
      rw [ks0] at g1
      obtain ⟨A1, a1, l1, e1, hl1, hP1, _⟩ := ints_of_trod (show DataW.trod enc Tryz.prog w base spare held n 26 [v1] = some y1 from g1)
      have g2 : DataW.trod enc Tryz.prog w base spare held n 3 (([v0, v1, v2].drop 2).take (Tryz.prog.cellsOf 3)) = [y0, y1, y2][2]? := hg 2 _ rfl
      rw [kint] at g2
      obtain ⟨p2, e2, _, wf2⟩ := DataW.trod_int Tryz.underlying3 (show DataW.trod enc Tryz.prog w base spare held n 3 [v2] = some y2 from g2)
      simp only [List.cons.injEq, and_true] at e2
      subst e0 e1 e2
      exact ⟨⟨⟨l0, l1, p2⟩, A0, a0, A1, a1⟩, rfl, ⟨hl0, hl1⟩⟩

theorem scls_of_trod {fuel : Nat} {v : Value} {x : DataW H × List MemPlace} (h : DataW.trod enc Tryz.prog w base spare held fuel 35 [v] = some x) :
    ∃ A c l, v = .slice A (List.length l) c ∧ Flat 3 sclC w w.heap.size A l ∧ (∀ z ∈ l, SclAt w w.heap.size z) ∧ l.length ≤ maxLen :=
  flat_of_trod (P := fun z => SclAt w w.heap.size z) (by decide) sclC_len Tryz.underlying35 (by kernel_rfl) (fun m cs x h hl => scl_of_trod m cs x h) h

set_option maxRecDepth 100000 in
theorem crd_of_trod (m : Nat) (cs : List Value) (x : DataW H × List MemPlace) (h : DataW.trod enc Tryz.prog w base spare held m 37 cs = some x) :
    ∃ z : CrdD, cs = crdC z ∧ SclsAt w w.heap.size z.S z.scales := by
  have hC : Tryz.prog.cellsOf 37 = 3 := by kernel_rfl
  have kint : Tryz.prog.cellsOf 3 = 1 := by kernel_rfl
  have ks0 : Tryz.prog.cellsOf 35 = 1 := by kernel_rfl
  obtain ⟨xs, n, _, _, hcl, hxl, hg⟩ := DataW.trod_struct Tryz.underlying37 h
  rw [hC] at hcl
  match cs, hcl with
  | [v0, v1, v2], _ =>
    match xs, hxl with
    | [y0, y1, y2], _ =>
      have g0 : DataW.trod enc Tryz.prog w base spare held n 3 (([v0, v1, v2].drop 0).take (Tryz.prog.cellsOf 3)) = [y0, y1, y2][0]? := hg 0 _ rfl
      rw [kint] at g0
      obtain ⟨p0, e0, _, wf0⟩ := DataW.trod_int Tryz.underlying3 (show DataW.trod enc Tryz.prog w base spare held n 3 [v0] = some y0 from g0)
      have g1 : DataW.trod enc Tryz.prog w base spare held n 3 (([v0, v1, v2].drop 1).take (Tryz.prog.cellsOf 3)) = [y0, y1, y2][1]? := hg 1 _ rfl
      rw [kint] at g1
      obtain ⟨p1, e1, _, wf1⟩ := DataW.trod_int Tryz.underlying3 (show DataW.trod enc Tryz.prog w base spare held n 3 [v1] = some y1 from g1)
      have g2 : DataW.trod enc Tryz.prog w base spare held n 35 (([v0, v1, v2].drop 2).take (Tryz.prog.cellsOf 35)) = [y0, y1, y2][2]? := hg 2 _ rfl
      rw [ks0] at g2
      obtain ⟨A2, a2, l2, e2, hl2, hP2, _⟩ := scls_of_trod (show DataW.trod enc Tryz.prog w base spare held n 35 [v2] = some y2 from g2)
      simp only [List.cons.injEq, and_true] at e0 e1
      subst e0 e1 e2
      exact ⟨⟨p0, p1, l2, A2, a2⟩, rfl, ⟨hl2, hP2⟩⟩

theorem crds_of_trod {fuel : Nat} {v : Value} {x : DataW H × List MemPlace} (h : DataW.trod enc Tryz.prog w base spare held fuel 22 [v] = some x) :
    ∃ A c l, v = .slice A (List.length l) c ∧ Flat 3 crdC w w.heap.size A l ∧ (∀ z ∈ l, SclsAt w w.heap.size z.S z.scales) ∧ l.length ≤ maxLen :=
  flat_of_trod (P := fun z => SclsAt w w.heap.size z.S z.scales) (by decide) crdC_len Tryz.underlying22 (by kernel_rfl) (fun m cs x h hl => crd_of_trod m cs x h) h

set_option maxRecDepth 100000 in
theorem nod_of_trod (m : Nat) (cs : List Value) (x : DataW H × List MemPlace) (h : DataW.trod enc Tryz.prog w base spare held m 48 cs = some x) :
    ∃ z : Nod, cs = nodC z ∧ True := by
  have hC : Tryz.prog.cellsOf 48 = 5 := by kernel_rfl
  have kint : Tryz.prog.cellsOf 3 = 1 := by kernel_rfl
  obtain ⟨xs, n, _, _, hcl, hxl, hg⟩ := DataW.trod_struct Tryz.underlying48 h
  rw [hC] at hcl
  match cs, hcl with
  | [v0, v1, v2, v3, v4], _ =>
    match xs, hxl with
    | [y0, y1, y2, y3, y4], _ =>
      have g0 : DataW.trod enc Tryz.prog w base spare held n 3 (([v0, v1, v2, v3, v4].drop 0).take (Tryz.prog.cellsOf 3)) = [y0, y1, y2, y3, y4][0]? := hg 0 _ rfl
      rw [kint] at g0
      obtain ⟨p0, e0, _, wf0⟩ := DataW.trod_int Tryz.underlying3 (show DataW.trod enc Tryz.prog w base spare held n 3 [v0] = some y0 from g0)
      have g1 : DataW.trod enc Tryz.prog w base spare held n 3 (([v0, v1, v2, v3, v4].drop 1).take (Tryz.prog.cellsOf 3)) = [y0, y1, y2, y3, y4][1]? := hg 1 _ rfl
      rw [kint] at g1
      obtain ⟨p1, e1, _, wf1⟩ := DataW.trod_int Tryz.underlying3 (show DataW.trod enc Tryz.prog w base spare held n 3 [v1] = some y1 from g1)
      have g2 : DataW.trod enc Tryz.prog w base spare held n 3 (([v0, v1, v2, v3, v4].drop 2).take (Tryz.prog.cellsOf 3)) = [y0, y1, y2, y3, y4][2]? := hg 2 _ rfl
      rw [kint] at g2
      obtain ⟨p2, e2, _, wf2⟩ := DataW.trod_int Tryz.underlying3 (show DataW.trod enc Tryz.prog w base spare held n 3 [v2] = some y2 from g2)
      have g3 : DataW.trod enc Tryz.prog w base spare held n 3 (([v0, v1, v2, v3, v4].drop 3).take (Tryz.prog.cellsOf 3)) = [y0, y1, y2, y3, y4][3]? := hg 3 _ rfl
      rw [kint] at g3
      obtain ⟨p3, e3, _, wf3⟩ := DataW.trod_int Tryz.underlying3 (show DataW.trod enc Tryz.prog w base spare held n 3 [v3] = some y3 from g3)
      have g4 : DataW.trod enc Tryz.prog w base spare held n 3 (([v0, v1, v2, v3, v4].drop 4).take (Tryz.prog.cellsOf 3)) = [y0, y1, y2, y3, y4][4]? := hg 4 _ rfl
      rw [kint] at g4
      obtain ⟨p4, e4, _, wf4⟩ := DataW.trod_int Tryz.underlying3 (show DataW.trod enc Tryz.prog w base spare held n 3 [v4] = some y4 from g4)
      simp only [List.cons.injEq, and_true] at e0 e1 e2 e3 e4
      subst e0 e1 e2 e3 e4
      exact ⟨⟨p0, p1, p2, p3, p4⟩, rfl, trivial⟩

theorem nods_of_trod {fuel : Nat} {v : Value} {x : DataW H × List MemPlace} (h : DataW.trod enc Tryz.prog w base spare held fuel 43 [v] = some x) :
    ∃ A c l, v = .slice A (List.length l) c ∧ Flat 5 nodC w w.heap.size A l ∧ (∀ z ∈ l, True) ∧ l.length ≤ maxLen :=
  flat_of_trod (P := fun z => True) (by decide) nodC_len Tryz.underlying43 (by kernel_rfl) (fun m cs x h hl => nod_of_trod m cs x h) h

set_option maxRecDepth 100000 in
theorem tre_of_trod (m : Nat) (cs : List Value) (x : DataW H × List MemPlace) (h : DataW.trod enc Tryz.prog w base spare held m 45 cs = some x) :
    ∃ z : TreD, cs = treC z ∧ NodsAt w w.heap.size z.T z.v.nodes := by
  have hC : Tryz.prog.cellsOf 45 = 2 := by kernel_rfl
  have kint : Tryz.prog.cellsOf 3 = 1 := by kernel_rfl
  have ks0 : Tryz.prog.cellsOf 43 = 1 := by kernel_rfl
  obtain ⟨xs, n, _, _, hcl, hxl, hg⟩ := DataW.trod_struct Tryz.underlying45 h
  rw [hC] at hcl
  match cs, hcl with
  | [v0, v1], _ =>
    match xs, hxl with
    | [y0, y1], _ =>
      have g0 : DataW.trod enc Tryz.prog w base spare held n 3 (([v0, v1].drop 0).take (Tryz.prog.cellsOf 3)) = [y0, y1][0]? := hg 0 _ rfl
      rw [kint] at g0
      obtain ⟨p0, e0, _, wf0⟩ := DataW.trod_int Tryz.underlying3 (show DataW.trod enc Tryz.prog w base spare held n 3 [v0] = some y0 from g0)
      have g1 : DataW.trod enc Tryz.prog w base spare held n 43 (([v0, v1].drop 1).take (Tryz.prog.cellsOf 43)) = [y0, y1][1]? := hg 1 _ rfl
      rw [ks0] at g1
      obtain ⟨A1, a1, l1, e1, hl1, hP1, _⟩ := nods_of_trod (show DataW.trod enc Tryz.prog w base spare held n 43 [v1] = some y1 from g1)
      simp only [List.cons.injEq, and_true] at e0
      subst e0 e1
      exact ⟨⟨⟨p0, l1⟩, A1, a1⟩, rfl, hl1⟩

theorem tres_of_trod {fuel : Nat} {v : Value} {x : DataW H × List MemPlace} (h : DataW.trod enc Tryz.prog w base spare held fuel 23 [v] = some x) :
    ∃ A c l, v = .slice A (List.length l) c ∧ Flat 2 treC w w.heap.size A l ∧ (∀ z ∈ l, NodsAt w w.heap.size z.T z.v.nodes) ∧ l.length ≤ maxLen :=
  flat_of_trod (P := fun z => NodsAt w w.heap.size z.T z.v.nodes) (by decide) treC_len Tryz.underlying23 (by kernel_rfl) (fun m cs x h hl => tre_of_trod m cs x h) h

set_option maxRecDepth 100000 in
theorem mdl_of_trod (m : Nat) (cs : List Value) (x : DataW H × List MemPlace) (h : DataW.trod enc Tryz.prog w base spare held m 25 cs = some x) :
    ∃ z : MdlD, cs = [.int .i64 z.traits, .slice z.C z.cards.length z.c, .slice z.T z.trees.length z.t, .int .i64 z.need] ∧ MdlAt w w.heap.size z := by
  have hC : Tryz.prog.cellsOf 25 = 4 := by kernel_rfl
  have kint : Tryz.prog.cellsOf 3 = 1 := by kernel_rfl
  have ks0 : Tryz.prog.cellsOf 22 = 1 := by kernel_rfl
  have ks1 : Tryz.prog.cellsOf 23 = 1 := by kernel_rfl
  obtain ⟨xs, n, _, _, hcl, hxl, hg⟩ := DataW.trod_struct Tryz.underlying25 h
  rw [hC] at hcl
  match cs, hcl with
  | [v0, v1, v2, v3], _ =>
    match xs, hxl with
    | [y0, y1, y2, y3], _ =>
      have g0 : DataW.trod enc Tryz.prog w base spare held n 3 (([v0, v1, v2, v3].drop 0).take (Tryz.prog.cellsOf 3)) = [y0, y1, y2, y3][0]? := hg 0 _ rfl
      rw [kint] at g0
      obtain ⟨p0, e0, _, wf0⟩ := DataW.trod_int Tryz.underlying3 (show DataW.trod enc Tryz.prog w base spare held n 3 [v0] = some y0 from g0)
      have g1 : DataW.trod enc Tryz.prog w base spare held n 22 (([v0, v1, v2, v3].drop 1).take (Tryz.prog.cellsOf 22)) = [y0, y1, y2, y3][1]? := hg 1 _ rfl
      rw [ks0] at g1
      obtain ⟨A1, a1, l1, e1, hl1, hP1, _⟩ := crds_of_trod (show DataW.trod enc Tryz.prog w base spare held n 22 [v1] = some y1 from g1)
      have g2 : DataW.trod enc Tryz.prog w base spare held n 23 (([v0, v1, v2, v3].drop 2).take (Tryz.prog.cellsOf 23)) = [y0, y1, y2, y3][2]? := hg 2 _ rfl
      rw [ks1] at g2
      obtain ⟨A2, a2, l2, e2, hl2, hP2, _⟩ := tres_of_trod (show DataW.trod enc Tryz.prog w base spare held n 23 [v2] = some y2 from g2)
      have g3 : DataW.trod enc Tryz.prog w base spare held n 3 (([v0, v1, v2, v3].drop 3).take (Tryz.prog.cellsOf 3)) = [y0, y1, y2, y3][3]? := hg 3 _ rfl
      rw [kint] at g3
      obtain ⟨p3, e3, _, wf3⟩ := DataW.trod_int Tryz.underlying3 (show DataW.trod enc Tryz.prog w base spare held n 3 [v3] = some y3 from g3)
      simp only [List.cons.injEq, and_true] at e0 e3
      subst e0 e1 e2 e3
      exact ⟨⟨p0, l1, A1, a1, l2, A2, a2, p3⟩, rfl, ⟨⟨hl1, hP1⟩, ⟨hl2, hP2⟩⟩⟩

end
end Go.Proofs.YtpahcbhikmfamaaGreat

namespace Go.Proofs.YtpahcbhikmfamaaGreat
open Go.ChangeShapes Go.WideShapes Go.ChangeAt Go.RowKit Go.Deep Go.Maps
section
variable {H : Type} {enc : TypeId × Value → H} {w : World} {base : Nat} {spare : Nat → Bool} {held : Bool}
set_option maxRecDepth 100000 in
theorem spn_of_trod (m : Nat) (cs : List Value) (x : DataW H × List MemPlace) (h : DataW.trod enc Tryz.prog w base spare held m 54 cs = some x) :
    ∃ z : Spn, cs = spnC z ∧ True := by
  have hC : Tryz.prog.cellsOf 54 = 2 := by kernel_rfl
  have kint : Tryz.prog.cellsOf 3 = 1 := by kernel_rfl
  obtain ⟨xs, n, _, _, hcl, hxl, hg⟩ := DataW.trod_struct Tryz.underlying54 h
  rw [hC] at hcl
  match cs, hcl with
  | [v0, v1], _ =>
    match xs, hxl with
    | [y0, y1], _ =>
      have g0 : DataW.trod enc Tryz.prog w base spare held n 3 (([v0, v1].drop 0).take (Tryz.prog.cellsOf 3)) = [y0, y1][0]? := hg 0 _ rfl
      rw [kint] at g0
      obtain ⟨p0, e0, _, _⟩ := DataW.trod_int Tryz.underlying3 (show DataW.trod enc Tryz.prog w base spare held n 3 [v0] = some y0 from g0)
      have g1 : DataW.trod enc Tryz.prog w base spare held n 3 (([v0, v1].drop 1).take (Tryz.prog.cellsOf 3)) = [y0, y1][1]? := hg 1 _ rfl
      rw [kint] at g1
      obtain ⟨p1, e1, _, _⟩ := DataW.trod_int Tryz.underlying3 (show DataW.trod enc Tryz.prog w base spare held n 3 [v1] = some y1 from g1)
      simp only [List.cons.injEq, and_true] at e0 e1
      subst e0 e1
      exact ⟨⟨p0, p1⟩, rfl, trivial⟩

theorem spns_of_trod {fuel : Nat} {v : Value} {x : DataW H × List MemPlace} (h : DataW.trod enc Tryz.prog w base spare held fuel 58 [v] = some x) :
    ∃ A c l, v = .slice A (List.length l) c ∧ Flat 2 spnC w w.heap.size A l ∧ (∀ z ∈ l, True) ∧ l.length ≤ maxLen :=
  flat_of_trod (n := 2) (f := spnC) (P := fun _ : Spn => True) (by decide) spnC_len Tryz.underlying58 (by kernel_rfl) (fun m cs x h hl => spn_of_trod m cs x h) h
end
end Go.Proofs.YtpahcbhikmfamaaGreat

namespace Go.Proofs.YtpahcbhikmfamaaGreat
open Go.ChangeShapes Go.WideShapes Go.ChangeAt Go.RowKit Go.Deep Go.Maps
section
variable {H : Type} {enc : TypeId × Value → H} {w : World} {base : Nat} {spare : Nat → Bool} {held : Bool}
theorem u32_of_trod (m : Nat) (cs : List Value) (x : DataW H × List MemPlace) (h : DataW.trod enc Tryz.prog w base spare held m 38 cs = some x) (hl : cs.length = 1) : ∃ z : Int, cs = u32C z ∧ (0 ≤ z ∧ z < 4294967296) := by
  match cs, hl with
  | [v], _ =>
    obtain ⟨p, e, _, wf⟩ := DataW.trod_int Tryz.underlying38 h
    have hmin : IntKind.u32.min = 0 := rfl
    have hmax : IntKind.u32.max = 4294967295 := rfl
    simp only [Lit.wf, Bool.and_eq_true, decide_eq_true_eq] at wf
    exact ⟨p, e, by omega, by omega⟩
theorem u32s_of_trod {fuel : Nat} {v : Value} {x : DataW H × List MemPlace} (h : DataW.trod enc Tryz.prog w base spare held fuel 27 [v] = some x) :
    ∃ A c l, v = .slice A (List.length l) c ∧ U32At w w.heap.size A l ∧ (∀ z ∈ l, 0 ≤ z ∧ z < 4294967296) ∧ l.length ≤ maxLen :=
  flat_of_trod (P := fun z => 0 ≤ z ∧ z < 4294967296) (by decide) u32C_len Tryz.underlying27 (by kernel_rfl) (fun m cs x h hl => u32_of_trod m cs x h hl) h
end
end Go.Proofs.YtpahcbhikmfamaaGreat
