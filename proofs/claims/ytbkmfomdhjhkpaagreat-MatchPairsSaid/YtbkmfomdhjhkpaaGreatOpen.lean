/- Rules and records among the arguments, opened; and the row's end where a law writes nothing that was there. -/
import Derived.Test.YtbkmfomdhjhkpaaGreatTwin
import Derived.Deep.Strs
import Derived.Lib.SmallJoins
import Derived.ProofKit
namespace Go.Proofs.YtbkmfomdhjhkpaaGreat
open Go.ChangeShapes Go.WideShapes Go.ChangeAt Go.RowKit Go.Deep

instance : Inhabited Stay := ⟨⟨0, 0, 0⟩⟩

section
variable {H : Type} {enc : TypeId × Value → H} {w : World} {base : Nat} {spare : Nat → Bool} {held : Bool}

theorem plain_of_cell {w : World} {a : Addr} {v : Value} (h : w.cell? a = some v) : a = ⟨a.block, a.off, none⟩ := by
  obtain ⟨b, o, s⟩ := a
  cases s with
  | none => rfl
  | some s => exfalso; unfold World.cell? at h; split at h <;> simp at h

set_option maxRecDepth 100000 in
theorem strs_of_trod {fuel : Nat} {v : Value} {x : DataW H × List MemPlace} (h : DataW.trod enc Tryz.prog w base spare held fuel 42 [v] = some x) :
    ∃ A c l, v = .slice A (List.length l) c ∧ Strs w w.heap.size A l ∧ l.length ≤ maxLen ∧ l.length ≤ c := by
  rcases open_strs Tryz.underlying42 Tryz.underlying9 (by kernel_rfl) h with ⟨hc, _⟩ | ⟨a, len, cap, m, Sx, hc, _, hl, hm, hmm, _, hcell⟩
  · simp only [List.cons.injEq, and_true] at hc
    exact ⟨none, 0, [], by simpa using hc, fun k hk => by simp at hk, by simp [maxLen], Nat.le_refl _⟩
  · simp only [List.cons.injEq, and_true] at hc
    have hlm : len ≤ m := by rw [hmm]; split <;> omega
    refine ⟨some a, cap, (List.range len).map Sx, by rw [hc]; simp, fun k hk => ?_, by simp; omega, by simp; omega⟩
    simp only [List.length_map, List.length_range] at hk
    obtain ⟨h0, hs⟩ := hcell k (by omega)
    obtain ⟨h00, _⟩ := hcell 0 (by omega)
    rw [Addr.add_zero'] at h00
    have hp := plain_of_cell h00
    have hlt := block_lt_of_cell h00
    refine ⟨a.block, a.off, by rw [← hp], hlt, ?_, by simpa using hs⟩
    rw [hp, add_plain] at h0
    simpa using h0

set_option maxRecDepth 100000 in
theorem stays_of_trod {fuel : Nat} {v : Value} {x : DataW H × List MemPlace} (h : DataW.trod enc Tryz.prog w base spare held fuel 45 [v] = some x) :
    ∃ A c l, v = .slice A (List.length l) c ∧ Stays w w.heap.size A l ∧ l.length ≤ maxLen := by
  have hC : Tryz.prog.cellsOf 75 = 3 := by kernel_rfl
  rcases open_slice Tryz.underlying45 h with ⟨hc, _⟩ | ⟨a, len, cap, m, n, Dx, Pl, hc, _, hl, hm, hmm, _, hcell⟩
  · simp only [List.cons.injEq, and_true] at hc
    exact ⟨none, 0, [], by simpa using hc, fun k hk => by simp at hk, by simp [maxLen]⟩
  · simp only [List.cons.injEq, and_true] at hc
    have hlm : len ≤ m := by rw [hmm]; split <;> omega
    have each : ∀ i, i < len → ∃ s : Stay, w.cell? (a.add (i * 3 + 0)) = some (.int .i64 s.p) ∧ w.cell? (a.add (i * 3 + 1)) = some (.int .i64 s.f) ∧ w.cell? (a.add (i * 3 + 2)) = some (.int .i64 s.t) := fun i hi => by
      obtain ⟨cs', h1, h2⟩ := hcell i (by omega)
      rw [hC] at h1
      obtain ⟨_, hlen, hat⟩ := World.cells?_some h1
      obtain ⟨xs, n', _, _, _, hxl, hg⟩ := DataW.trod_struct Tryz.underlying75 h2
      match cs', hlen with
      | [v0, v1, v2], _ =>
        match xs, hxl with
        | [y0, y1, y2], _ =>
          have c3 : Tryz.prog.cellsOf 3 = 1 := by kernel_rfl
          have g0 : DataW.trod enc Tryz.prog w base spare held n' 3 (([v0, v1, v2].drop 0).take (Tryz.prog.cellsOf 3)) = [y0, y1, y2][0]? := hg 0 _ rfl
          have g1 : DataW.trod enc Tryz.prog w base spare held n' 3 (([v0, v1, v2].drop 1).take (Tryz.prog.cellsOf 3)) = [y0, y1, y2][1]? := hg 1 _ rfl
          have g2 : DataW.trod enc Tryz.prog w base spare held n' 3 (([v0, v1, v2].drop 2).take (Tryz.prog.cellsOf 3)) = [y0, y1, y2][2]? := hg 2 _ rfl
          rw [c3] at g0 g1 g2
          obtain ⟨p0, e0, _⟩ := DataW.trod_int Tryz.underlying3 (show DataW.trod enc Tryz.prog w base spare held n' 3 [v0] = some y0 from g0)
          obtain ⟨p1, e1, _⟩ := DataW.trod_int Tryz.underlying3 (show DataW.trod enc Tryz.prog w base spare held n' 3 [v1] = some y1 from g1)
          obtain ⟨p2, e2, _⟩ := DataW.trod_int Tryz.underlying3 (show DataW.trod enc Tryz.prog w base spare held n' 3 [v2] = some y2 from g2)
          simp only [List.cons.injEq, and_true] at e0 e1 e2
          subst e0 e1 e2
          refine ⟨⟨p0, p1, p2⟩, ?_, ?_, ?_⟩
          · rw [← Go.Addr.add_add, hat 0 (by omega)]; rfl
          · rw [← Go.Addr.add_add, hat 1 (by omega)]; rfl
          · rw [← Go.Addr.add_add, hat 2 (by omega)]; rfl
    obtain ⟨S, hS⟩ := choose_lt each
    refine ⟨some a, cap, (List.range len).map S, by rw [hc]; simp, fun k hk => ?_, by simp; omega⟩
    simp only [List.length_map, List.length_range] at hk
    obtain ⟨h1, h2, h3⟩ := hS k hk
    obtain ⟨h00, _⟩ := hS 0 (by omega)
    rw [show 0 * 3 + 0 = 0 from rfl, Addr.add_zero'] at h00
    have hp := plain_of_cell h00
    have hlt := block_lt_of_cell h00
    rw [hp, add_plain] at h1 h2 h3
    exact ⟨a.block, a.off, by rw [← hp], hlt, by simpa using h1, by simpa [Nat.add_assoc] using h2, by simpa [Nat.add_assoc] using h3⟩

structure RecWf (r : Rec) : Prop where
  id : (Lit.int .i64 r.id).wf = true
  suf : (Lit.int .u8 r.suf).wf = true
  lo : (Lit.int .i64 r.lo).wf = true
  hi : (Lit.int .i64 r.hi).wf = true

set_option maxRecDepth 100000 in
theorem rec_of_trod {fuel : Nat} {cs : List Value} {x : DataW H × List MemPlace} (h : DataW.trod enc Tryz.prog w base spare held fuel 47 cs = some x) :
    ∃ r A c D d, cs = [.int .i64 r.id, .slice A r.names.length c, .int .u8 r.suf, .int .i64 r.lo, .int .i64 r.hi, .string r.num, .bool r.twin, .slice D r.stays.length d] ∧ RecAt w w.heap.size A D r ∧ RecWf r ∧ r.names.length ≤ c := by
  have hC : Tryz.prog.cellsOf 47 = 8 := by kernel_rfl
  have hC2 : Tryz.prog.cellsOf 44 = 2 := by kernel_rfl
  have k3 : Tryz.prog.cellsOf 3 = 1 := by kernel_rfl
  have k24 : Tryz.prog.cellsOf 42 = 1 := by kernel_rfl
  have k5 : Tryz.prog.cellsOf 5 = 1 := by kernel_rfl
  have k9 : Tryz.prog.cellsOf 9 = 1 := by kernel_rfl
  have k4 : Tryz.prog.cellsOf 4 = 1 := by kernel_rfl
  have k27 : Tryz.prog.cellsOf 45 = 1 := by kernel_rfl
  obtain ⟨xs, n, _, _, hcl, hxl, hg⟩ := DataW.trod_struct Tryz.underlying47 h
  rw [hC] at hcl
  match cs, hcl with
  | [v0, v1, v2, v3, v4, v5, v6, v7], _ =>
    match xs, hxl with
    | [y0, y1, y2, y3, y4, y5, y6], _ =>
      have g0 : DataW.trod enc Tryz.prog w base spare held n 3 (([v0, v1, v2, v3, v4, v5, v6, v7].drop 0).take (Tryz.prog.cellsOf 3)) = [y0, y1, y2, y3, y4, y5, y6][0]? := hg 0 _ rfl
      have g1 : DataW.trod enc Tryz.prog w base spare held n 42 (([v0, v1, v2, v3, v4, v5, v6, v7].drop 1).take (Tryz.prog.cellsOf 42)) = [y0, y1, y2, y3, y4, y5, y6][1]? := hg 1 _ rfl
      have g2 : DataW.trod enc Tryz.prog w base spare held n 5 (([v0, v1, v2, v3, v4, v5, v6, v7].drop 2).take (Tryz.prog.cellsOf 5)) = [y0, y1, y2, y3, y4, y5, y6][2]? := hg 2 _ rfl
      have g3 : DataW.trod enc Tryz.prog w base spare held n 44 (([v0, v1, v2, v3, v4, v5, v6, v7].drop 3).take (Tryz.prog.cellsOf 44)) = [y0, y1, y2, y3, y4, y5, y6][3]? := hg 3 _ rfl
      have g4 : DataW.trod enc Tryz.prog w base spare held n 9 (([v0, v1, v2, v3, v4, v5, v6, v7].drop 5).take (Tryz.prog.cellsOf 9)) = [y0, y1, y2, y3, y4, y5, y6][4]? := hg 4 _ rfl
      have g5 : DataW.trod enc Tryz.prog w base spare held n 4 (([v0, v1, v2, v3, v4, v5, v6, v7].drop 6).take (Tryz.prog.cellsOf 4)) = [y0, y1, y2, y3, y4, y5, y6][5]? := hg 5 _ rfl
      have g6 : DataW.trod enc Tryz.prog w base spare held n 45 (([v0, v1, v2, v3, v4, v5, v6, v7].drop 7).take (Tryz.prog.cellsOf 45)) = [y0, y1, y2, y3, y4, y5, y6][6]? := hg 6 _ rfl
      rw [k3] at g0
      rw [k24] at g1
      rw [k5] at g2
      rw [hC2] at g3
      rw [k9] at g4
      rw [k4] at g5
      rw [k27] at g6
      obtain ⟨id, e0, _, wf0⟩ := DataW.trod_int Tryz.underlying3 (show DataW.trod enc Tryz.prog w base spare held n 3 [v0] = some y0 from g0)
      obtain ⟨A, c, l, e1, hs, hsl, hlc⟩ := strs_of_trod (show DataW.trod enc Tryz.prog w base spare held n 42 [v1] = some y1 from g1)
      obtain ⟨suf, e2, _, wf2⟩ := DataW.trod_int Tryz.underlying5 (show DataW.trod enc Tryz.prog w base spare held n 5 [v2] = some y2 from g2)
      obtain ⟨zs, n', _, _, _, hzl, hz⟩ := DataW.trod_struct Tryz.underlying44 (show DataW.trod enc Tryz.prog w base spare held n 44 [v3, v4] = some y3 from g3)
      obtain ⟨num, e4, _, wf4⟩ := DataW.trod_string Tryz.underlying9 (show DataW.trod enc Tryz.prog w base spare held n 9 [v5] = some y4 from g4)
      obtain ⟨tw, e5, _⟩ := DataW.trod_bool Tryz.underlying4 (show DataW.trod enc Tryz.prog w base spare held n 4 [v6] = some y5 from g5)
      obtain ⟨D, d, st, e6, hst, hstl⟩ := stays_of_trod (show DataW.trod enc Tryz.prog w base spare held n 45 [v7] = some y6 from g6)
      match zs, hzl with
      | [z0, z1], _ =>
        have q0 : DataW.trod enc Tryz.prog w base spare held n' 3 (([v3, v4].drop 0).take (Tryz.prog.cellsOf 3)) = [z0, z1][0]? := hz 0 _ rfl
        have q1 : DataW.trod enc Tryz.prog w base spare held n' 3 (([v3, v4].drop 1).take (Tryz.prog.cellsOf 3)) = [z0, z1][1]? := hz 1 _ rfl
        rw [k3] at q0 q1
        obtain ⟨lo, e7, _, wf7⟩ := DataW.trod_int Tryz.underlying3 (show DataW.trod enc Tryz.prog w base spare held n' 3 [v3] = some z0 from q0)
        obtain ⟨hi, e8, _, wf8⟩ := DataW.trod_int Tryz.underlying3 (show DataW.trod enc Tryz.prog w base spare held n' 3 [v4] = some z1 from q1)
        simp only [List.cons.injEq, and_true] at e0 e2 e4 e5 e7 e8
        subst e0 e1 e2 e4 e5 e6 e7 e8
        exact ⟨⟨id, l, suf, lo, hi, num, tw, st⟩, A, c, D, d, rfl, ⟨hs, hst, hsl, hstl, wf4⟩, ⟨wf0, wf2, wf7, wf8⟩, hlc⟩

structure RulWf (u : Rul) : Prop where
  l : (Lit.int .i64 u.l).wf = true
  d : (Lit.int .i64 u.d).wf = true
  y : (Lit.int .i64 u.y).wf = true
  t : (Lit.int .i64 u.t).wf = true

set_option maxRecDepth 100000 in
theorem rul_of_trod {fuel : Nat} {cs : List Value} {x : DataW H × List MemPlace} (h : DataW.trod enc Tryz.prog w base spare held fuel 23 cs = some x) :
    ∃ u : Rul, cs = [.int .i64 u.l, .int .i64 u.d, .int .i64 u.y, .int .i64 u.t] ∧ RulWf u := by
  have hC : Tryz.prog.cellsOf 23 = 4 := by kernel_rfl
  have k3 : Tryz.prog.cellsOf 3 = 1 := by kernel_rfl
  obtain ⟨xs, n, _, _, hcl, hxl, hg⟩ := DataW.trod_struct Tryz.underlying23 h
  rw [hC] at hcl
  match cs, hcl with
  | [v0, v1, v2, v3], _ =>
    match xs, hxl with
    | [y0, y1, y2, y3], _ =>
      have g0 : DataW.trod enc Tryz.prog w base spare held n 3 (([v0, v1, v2, v3].drop 0).take (Tryz.prog.cellsOf 3)) = [y0, y1, y2, y3][0]? := hg 0 _ rfl
      have g1 : DataW.trod enc Tryz.prog w base spare held n 3 (([v0, v1, v2, v3].drop 1).take (Tryz.prog.cellsOf 3)) = [y0, y1, y2, y3][1]? := hg 1 _ rfl
      have g2 : DataW.trod enc Tryz.prog w base spare held n 3 (([v0, v1, v2, v3].drop 2).take (Tryz.prog.cellsOf 3)) = [y0, y1, y2, y3][2]? := hg 2 _ rfl
      have g3 : DataW.trod enc Tryz.prog w base spare held n 3 (([v0, v1, v2, v3].drop 3).take (Tryz.prog.cellsOf 3)) = [y0, y1, y2, y3][3]? := hg 3 _ rfl
      rw [k3] at g0 g1 g2 g3
      obtain ⟨p0, e0, _, f0⟩ := DataW.trod_int Tryz.underlying3 (show DataW.trod enc Tryz.prog w base spare held n 3 [v0] = some y0 from g0)
      obtain ⟨p1, e1, _, f1⟩ := DataW.trod_int Tryz.underlying3 (show DataW.trod enc Tryz.prog w base spare held n 3 [v1] = some y1 from g1)
      obtain ⟨p2, e2, _, f2⟩ := DataW.trod_int Tryz.underlying3 (show DataW.trod enc Tryz.prog w base spare held n 3 [v2] = some y2 from g2)
      obtain ⟨p3, e3, _, f3⟩ := DataW.trod_int Tryz.underlying3 (show DataW.trod enc Tryz.prog w base spare held n 3 [v3] = some y3 from g3)
      simp only [List.cons.injEq, and_true] at e0 e1 e2 e3
      subst e0 e1 e2 e3
      exact ⟨⟨p0, p1, p2, p3⟩, rfl, ⟨f0, f1, f2, f3⟩⟩
end

theorem Tryz.own : ownKnob Tryz.prog.godebug = none := by kernel_rfl
theorem Tryz.laidOut : laidOutB Tryz.prog = true := by kernel_rfl

end Go.Proofs.YtbkmfomdhjhkpaaGreat
