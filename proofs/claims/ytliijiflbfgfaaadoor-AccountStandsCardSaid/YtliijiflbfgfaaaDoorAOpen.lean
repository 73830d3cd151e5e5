/- A list of reports among the arguments, opened; and what the row's cell of the table gives. -/
import Derived.Test.YtliijiflbfgfaaaDoorALaw
import Derived.Deep.Strs
import Derived.Lib.SmallJoins
import Derived.ProofKit
import Derived.OpenShut
import Derived.LaidMore

namespace Go.Proofs.YtliijiflbfgfaaaDoor
open Go.ChangeShapes Go.WideShapes Go.ChangeAt Go.RowKit Go.Deep

section
variable {H : Type} {enc : TypeId × Value → H} {w : World} {base : Nat} {spare : Nat → Bool} {held : Bool}

theorem plain_of_cell {w : World} {a : Addr} {v : Value} (h : w.cell? a = some v) : a = ⟨a.block, a.off, none⟩ := by
  obtain ⟨b, o, s⟩ := a
  cases s with
  | none => rfl
  | some s => exfalso; unfold World.cell? at h; split at h <;> simp at h

set_option maxRecDepth 100000 in
theorem rep_of_trod {fuel : Nat} {cs : List Value} {x : DataW H × List MemPlace} (h : DataW.trod enc Tryd.prog w base spare held fuel 47 cs = some x) :
    ∃ r : Rep, cs = [.int .i64 r.id, .int .i64 r.src, .int .i64 r.acc, .int .i64 r.made, .int .i64 r.about, .int .u8 r.kind, .int .i64 r.cents, .int .i64 r.of_] ∧ RepWf r := by
  have hC : Tryd.prog.cellsOf 47 = 8 := by kernel_rfl
  have k3 : Tryd.prog.cellsOf 3 = 1 := by kernel_rfl
  have k5 : Tryd.prog.cellsOf 5 = 1 := by kernel_rfl
  obtain ⟨xs, n, _, _, hcl, hxl, hg⟩ := DataW.trod_struct Tryd.underlying47 h
  rw [hC] at hcl
  match cs, hcl with
  | [v0, v1, v2, v3, v4, v5, v6, v7], _ =>
    match xs, hxl with
    | [y0, y1, y2, y3, y4, y5, y6, y7], _ =>
      have g0 : DataW.trod enc Tryd.prog w base spare held n 3 (([v0, v1, v2, v3, v4, v5, v6, v7].drop 0).take (Tryd.prog.cellsOf 3)) = [y0, y1, y2, y3, y4, y5, y6, y7][0]? := hg 0 _ rfl
      have g1 : DataW.trod enc Tryd.prog w base spare held n 3 (([v0, v1, v2, v3, v4, v5, v6, v7].drop 1).take (Tryd.prog.cellsOf 3)) = [y0, y1, y2, y3, y4, y5, y6, y7][1]? := hg 1 _ rfl
      have g2 : DataW.trod enc Tryd.prog w base spare held n 3 (([v0, v1, v2, v3, v4, v5, v6, v7].drop 2).take (Tryd.prog.cellsOf 3)) = [y0, y1, y2, y3, y4, y5, y6, y7][2]? := hg 2 _ rfl
      have g3 : DataW.trod enc Tryd.prog w base spare held n 3 (([v0, v1, v2, v3, v4, v5, v6, v7].drop 3).take (Tryd.prog.cellsOf 3)) = [y0, y1, y2, y3, y4, y5, y6, y7][3]? := hg 3 _ rfl
      have g4 : DataW.trod enc Tryd.prog w base spare held n 3 (([v0, v1, v2, v3, v4, v5, v6, v7].drop 4).take (Tryd.prog.cellsOf 3)) = [y0, y1, y2, y3, y4, y5, y6, y7][4]? := hg 4 _ rfl
      have g5 : DataW.trod enc Tryd.prog w base spare held n 5 (([v0, v1, v2, v3, v4, v5, v6, v7].drop 5).take (Tryd.prog.cellsOf 5)) = [y0, y1, y2, y3, y4, y5, y6, y7][5]? := hg 5 _ rfl
      have g6 : DataW.trod enc Tryd.prog w base spare held n 3 (([v0, v1, v2, v3, v4, v5, v6, v7].drop 6).take (Tryd.prog.cellsOf 3)) = [y0, y1, y2, y3, y4, y5, y6, y7][6]? := hg 6 _ rfl
      have g7 : DataW.trod enc Tryd.prog w base spare held n 3 (([v0, v1, v2, v3, v4, v5, v6, v7].drop 7).take (Tryd.prog.cellsOf 3)) = [y0, y1, y2, y3, y4, y5, y6, y7][7]? := hg 7 _ rfl
      rw [k3] at g0 g1 g2 g3 g4 g6 g7
      rw [k5] at g5
      obtain ⟨p0, e0, _, wf0⟩ := DataW.trod_int Tryd.underlying3 (show DataW.trod enc Tryd.prog w base spare held n 3 [v0] = some y0 from g0)
      obtain ⟨p1, e1, _⟩ := DataW.trod_int Tryd.underlying3 (show DataW.trod enc Tryd.prog w base spare held n 3 [v1] = some y1 from g1)
      obtain ⟨p2, e2, _⟩ := DataW.trod_int Tryd.underlying3 (show DataW.trod enc Tryd.prog w base spare held n 3 [v2] = some y2 from g2)
      obtain ⟨p3, e3, _⟩ := DataW.trod_int Tryd.underlying3 (show DataW.trod enc Tryd.prog w base spare held n 3 [v3] = some y3 from g3)
      obtain ⟨p4, e4, _⟩ := DataW.trod_int Tryd.underlying3 (show DataW.trod enc Tryd.prog w base spare held n 3 [v4] = some y4 from g4)
      obtain ⟨p5, e5, _, wf5⟩ := DataW.trod_int Tryd.underlying5 (show DataW.trod enc Tryd.prog w base spare held n 5 [v5] = some y5 from g5)
      obtain ⟨p6, e6, _⟩ := DataW.trod_int Tryd.underlying3 (show DataW.trod enc Tryd.prog w base spare held n 3 [v6] = some y6 from g6)
      obtain ⟨p7, e7, _⟩ := DataW.trod_int Tryd.underlying3 (show DataW.trod enc Tryd.prog w base spare held n 3 [v7] = some y7 from g7)
      simp only [List.cons.injEq, and_true] at e0 e1 e2 e3 e4 e5 e6 e7
      subst e0 e1 e2 e3 e4 e5 e6 e7
      refine ⟨⟨p0, p1, p2, p3, p4, p5, p6, p7⟩, rfl, ⟨wf0, ?_⟩⟩
      simpa [Lit.wf, IntKind.min, IntKind.max, IntKind.signed, IntKind.bits] using wf5

set_option maxRecDepth 100000 in
theorem reps_of_trod {fuel : Nat} {v : Value} {x : DataW H × List MemPlace} (h : DataW.trod enc Tryd.prog w base spare held fuel 22 [v] = some x) :
    ∃ A c l, v = .slice A (List.length l) c ∧ Reps w w.heap.size A l ∧ (∀ r ∈ l, RepWf r) ∧ l.length ≤ maxLen := by
  have hC : Tryd.prog.cellsOf 47 = 8 := by kernel_rfl
  rcases open_slice Tryd.underlying22 h with ⟨hc, _⟩ | ⟨a, len, cap, m, n, Dx, Pl, hc, _, hl, hm, hmm, _, hcell⟩
  · simp only [List.cons.injEq, and_true] at hc
    exact ⟨none, 0, [], by simpa using hc, fun k hk => by simp at hk, fun z hz => by simp at hz, by simp [maxLen]⟩
  · simp only [List.cons.injEq, and_true] at hc
    have hlm : len ≤ m := by rw [hmm]; split <;> omega
    have each : ∀ i, i < len → ∃ z : Rep, (∀ j, j < 8 → w.cell? (a.add (i * 8 + j)) = (#[.int .i64 z.id, .int .i64 z.src, .int .i64 z.acc, .int .i64 z.made, .int .i64 z.about, .int .u8 z.kind, .int .i64 z.cents, .int .i64 z.of_] : Array Value)[j]?) ∧ RepWf z := fun i hi => by
      obtain ⟨cs', h1, h2⟩ := hcell i (by omega)
      rw [hC] at h1
      obtain ⟨_, hlen, hat⟩ := World.cells?_some h1
      obtain ⟨r, rfl, hwf⟩ := rep_of_trod h2
      refine ⟨r, fun j hj => ?_, hwf⟩
      rw [← Go.Addr.add_add, hat j (by omega)]
      simp
    obtain ⟨S, hS⟩ := choose_lt each
    refine ⟨some a, cap, (List.range len).map S, by rw [hc]; simp, fun k hk => ?_, fun z hz => ?_, by simp; omega⟩
    · simp only [List.length_map, List.length_range] at hk
      obtain ⟨h1, h2⟩ := hS k hk
      obtain ⟨g1, _⟩ := hS 0 (by omega)
      have h00 := g1 0 (by omega)
      rw [show 0 * 8 + 0 = 0 from rfl, Addr.add_zero'] at h00
      have hp := plain_of_cell h00
      have hlt := block_lt_of_cell h00
      refine ⟨a.block, a.off, by rw [← hp], hlt, fun i hi => ?_⟩
      have := h1 i hi
      rw [hp, add_plain] at this
      simpa [Nat.add_assoc] using this
    · obtain ⟨k, hk, rfl⟩ := List.mem_map.1 hz
      exact (hS k (by simpa using hk)).2
end

/-! The table. -/
theorem gNeeds : Tryd.prog.globalNamed "goodname/account.needs" = some 0 := by kernel_rfl
theorem tNeeds : (Tryd.prog.globals[0]?).map (·.type) = some 70 := by kernel_rfl

section
variable {H : Type} {enc : TypeId × Value → H} {w : World} {base : Nat} {spare : Nat → Bool} {held : Bool}
set_option maxRecDepth 100000 in
theorem need_of_trod {fuel : Nat} {cs : List Value} {x : DataW H × List MemPlace} {a b : Int} {f : Bool} (h : DataW.trod enc Tryd.prog w base spare held fuel 69 cs = some x) (hx : x.1 = .agg [.lit (.int .i64 a), .lit (.int .i64 b), .lit (.bool f)]) :
    cs = [.int .i64 a, .int .i64 b, .bool f] := by
  have hC : Tryd.prog.cellsOf 69 = 3 := by kernel_rfl
  have k3 : Tryd.prog.cellsOf 3 = 1 := by kernel_rfl
  have k4 : Tryd.prog.cellsOf 4 = 1 := by kernel_rfl
  obtain ⟨xs, n, _, rfl, hcl, hxl, hg⟩ := DataW.trod_struct Tryd.underlying69 h
  rw [hC] at hcl
  match cs, hcl with
  | [v0, v1, v2], _ =>
    match xs, hxl with
    | [y0, y1, y2], _ =>
      have g0 : DataW.trod enc Tryd.prog w base spare held n 3 (([v0, v1, v2].drop 0).take (Tryd.prog.cellsOf 3)) = [y0, y1, y2][0]? := hg 0 _ rfl
      have g1 : DataW.trod enc Tryd.prog w base spare held n 3 (([v0, v1, v2].drop 1).take (Tryd.prog.cellsOf 3)) = [y0, y1, y2][1]? := hg 1 _ rfl
      have g2 : DataW.trod enc Tryd.prog w base spare held n 4 (([v0, v1, v2].drop 2).take (Tryd.prog.cellsOf 4)) = [y0, y1, y2][2]? := hg 2 _ rfl
      rw [k3] at g0 g1
      rw [k4] at g2
      obtain ⟨p0, e0, z0, _⟩ := DataW.trod_int Tryd.underlying3 (show DataW.trod enc Tryd.prog w base spare held n 3 [v0] = some y0 from g0)
      obtain ⟨p1, e1, z1, _⟩ := DataW.trod_int Tryd.underlying3 (show DataW.trod enc Tryd.prog w base spare held n 3 [v1] = some y1 from g1)
      obtain ⟨p2, e2, z2⟩ := DataW.trod_bool Tryd.underlying4 (show DataW.trod enc Tryd.prog w base spare held n 4 [v2] = some y2 from g2)
      subst z0 z1 z2
      simp at hx
      obtain ⟨rfl, rfl, rfl⟩ := hx
      simp only [List.cons.injEq, and_true] at e0 e1 e2 ⊢
      exact ⟨e0, e1, e2⟩

theorem thirty {L M : List Value} (hL : L.length = 30) (hM : M.length = 30) (h : ∀ q, q < 10 → (L.drop (q * 3)).take 3 = (M.drop (q * 3)).take 3) : L = M := by
  apply List.ext_getElem (by omega)
  intro i h1 h2
  have hq := h (i / 3) (by omega)
  have e := congrArg (fun l => l[i % 3]?) hq
  simp only [List.getElem?_take, List.getElem?_drop] at e
  rw [if_pos (by omega), if_pos (by omega), show i / 3 * 3 + i % 3 = i by omega, List.getElem?_eq_getElem h1, List.getElem?_eq_getElem h2] at e
  exact Option.some.inj e

set_option maxRecDepth 100000 in
theorem needs_of_trod {fuel : Nat} {cs : List Value} {p : List MemPlace} (h : DataW.trod enc Tryd.prog w base spare held fuel 70 cs = some (Rows.laid_goodname_account_needs, p)) : cs = needsCells.toList := by
  have hC : Tryd.prog.cellsOf 70 = 30 := by kernel_rfl
  have k69 : Tryd.prog.cellsOf 69 = 3 := by kernel_rfl
  obtain ⟨xs, m, _, hx, hcl, hxl, hg⟩ := DataW.trod_array Tryd.underlying70 h
  rw [hC] at hcl
  rw [k69] at hg
  match xs, hxl, hg, hx with
  | [x0, x1, x2, x3, x4, x5, x6, x7, x8, x9], _, hg, hx =>
    simp only [Rows.laid_goodname_account_needs, List.map_cons, List.map_nil, Prod.mk.injEq, DataW.agg.injEq, List.cons.injEq, and_true] at hx
    obtain ⟨⟨z0, z1, z2, z3, z4, z5, z6, z7, z8, z9⟩, _⟩ := hx
    refine thirty hcl rfl fun q hq => ?_
    have hh : q = 0 ∨ q = 1 ∨ q = 2 ∨ q = 3 ∨ q = 4 ∨ q = 5 ∨ q = 6 ∨ q = 7 ∨ q = 8 ∨ q = 9 := by omega
    rcases hh with rfl | rfl | rfl | rfl | rfl | rfl | rfl | rfl | rfl | rfl
    · exact need_of_trod (show _ = some x0 from hg 0 (by omega)) z0.symm
    · exact need_of_trod (show _ = some x1 from hg 1 (by omega)) z1.symm
    · exact need_of_trod (show _ = some x2 from hg 2 (by omega)) z2.symm
    · exact need_of_trod (show _ = some x3 from hg 3 (by omega)) z3.symm
    · exact need_of_trod (show _ = some x4 from hg 4 (by omega)) z4.symm
    · exact need_of_trod (show _ = some x5 from hg 5 (by omega)) z5.symm
    · exact need_of_trod (show _ = some x6 from hg 6 (by omega)) z6.symm
    · exact need_of_trod (show _ = some x7 from hg 7 (by omega)) z7.symm
    · exact need_of_trod (show _ = some x8 from hg 8 (by omega)) z8.symm
    · exact need_of_trod (show _ = some x9 from hg 9 (by omega)) z9.symm
end

theorem needs_of_laid {W : World} (h : laidMetH Tryd.prog [("goodname/account.needs", Rows.laid_goodname_account_needs)] W) : NeedsAt W := by
  rw [MakeChecks.laidMetH_plain _ _ _ (by kernel_rfl)] at h
  obtain ⟨ps, ⟨g, t, cs, f, p, q, hg, ht, hv, hd, _⟩, _⟩ := h
  obtain rfl := Option.some.inj (gNeeds.symm.trans hg)
  obtain rfl := Option.some.inj (tNeeds.symm.trans ht)
  have e := needs_of_trod hd
  obtain rfl : cs = needsCells := by rw [← Array.toList_inj, e]
  have hc : ∀ i, W.cell? ⟨0, i, none⟩ = needsCells[i]? := fun i => World.var?_cell hg hv i
  exact ⟨block_lt_of_cell ((hc 0).trans rfl), hc⟩

end Go.Proofs.YtliijiflbfgfaaaDoor
