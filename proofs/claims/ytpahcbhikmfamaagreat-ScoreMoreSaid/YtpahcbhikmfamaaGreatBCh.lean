/- The lists of typical values, in order: the closure that calls itself. -/
import Derived.Test.YtpahcbhikmfamaaGreatBTyp
import Derived.Test.YtpahcbhikmfamaaGreatSBP1

namespace Go.Proofs.YtpahcbhikmfamaaGreat
open Go.RowKit Go.Shelf

attribute [local go_sem] Oper.semAt_some

set_option maxRecDepth 100000 in
theorem typical_in (n : Nat) (lo hi : Int) (A : Option Addr) (len c : Nat) (w : World) :
    CallsIn Fence.wide n Tryz.prog 48 #[.agg #[.int .i64 lo, .int .i64 hi], .slice A len c] w fun e w' => e = .returned (.func (.func 64) #[] #[.pointer (some ⟨w.heap.size, 0, none⟩), .pointer (some ⟨w.heap.size + 1, 0, none⟩)]) ∧ w' = (w.alloc (.cells #[.int .i64 lo, .int .i64 hi] 54)).alloc (.cells #[.slice A len c] 26) := by
  refine callsIn_of_wp Tryz.func48 rfl trivial ?_ rfl
  simp only [Tryz.ntmps48, List.size_toArray, List.length_cons, List.length_nil, Nat.reduceAdd, Nat.reduceSub, Array.replicate_succ, Array.replicate_zero, List.push_toArray, List.append_toArray, List.nil_append, List.cons_append]
  gi_wp2
  go_ret
  exact ⟨by simp, rfl⟩
theorem typical_stops (n : Nat) (hn : 1 ≤ n) (sb cb : Nat) (lo hi : Int) (A : Option Addr) (c : Nat) (cs : List Int) (hcs : cs.length ≤ 1000) (Q : Nat → Prop) (hsb : Q sb) (hcb : Q cb) (w : World) (k1 : Blk w sb #[.int .i64 lo, .int .i64 hi] 54) (k2 : Blk w cb #[.slice A cs.length c] 26) (hA : FlatP 1 intC w Q A cs) :
    SeqStopsK Fence.wide n Tryz.prog 64 #[.pointer (some ⟨sb, 0, none⟩), .pointer (some ⟨cb, 0, none⟩)] (fun x : Int => #[.int .i64 x]) (Kpt Q) (· = typL lo hi cs) (· <+: typL lo hi cs) (cs.length + 1) w :=
  fun l J Jx W hW _ _ hY h0 => typical1_in n hn l sb cb lo hi A c cs hcs Q hsb hcb J Jx hY W (k1.below hW k1.lt) (k2.below hW k2.lt) (hA.move (Fr.below hW)) h0

/-! The lists. -/
structure CutD where
  l : List Int
  A : Option Addr
  c : Nat
instance : Inhabited CutD := ⟨⟨[], none, 0⟩⟩
def cutC (x : CutD) : List Value := [.slice x.A x.l.length x.c]
theorem cutC_len (x : CutD) : (cutC x).length = 1 := rfl
/-- A list that is handed on: where it lies. -/
structure Vc where
  A : Option Addr
  c : Nat
  v : List Int
def vcC (x : Vc) : Array Value := #[.slice x.A x.v.length x.c]
def VcAt (T : Nat) (x : Vc) (w : World) : Prop := IntsAt w w.heap.size x.A x.v ∧ x.v.length = T
/-- What the closure has captured. -/
structure ChE (W : World) (Z : Nat → Prop) (l ss yb xb cb hb xa T : Nat) (SA : Option Addr) (sc : Nat) (sp : List Spn) (CA : Option Addr) (cc : Nat) (Cs : List CutD) : Prop where
  s : Blk W ss #[.slice SA T sc] 58
  sz : Z ss
  sp : FlatP 2 spnC W Z SA sp
  y : Blk W yb #[.func (.yield l) #[] #[]] 80
  yz : Z yb
  x : Blk W xb #[.slice (some ⟨xa, 0, none⟩) T T] 26
  xz : Z xb
  c : Blk W cb #[.slice CA T cc] 95
  cz : Z cb
  row : FlatP 1 cutC W Z CA Cs
  each : ∀ q ∈ Cs, FlatP 1 intC W Z q.A q.l
  h : Blk W hb #[.func (.func 47) #[] #[.pointer (some ⟨ss, 0, none⟩), .pointer (some ⟨yb, 0, none⟩), .pointer (some ⟨xb, 0, none⟩), .pointer (some ⟨cb, 0, none⟩), .pointer (some ⟨hb, 0, none⟩)]] 70
  hz : Z hb
theorem ChE.move {W W' : World} {Z : Nat → Prop} {l ss yb xb cb hb xa T : Nat} {SA : Option Addr} {sc : Nat} {sp : List Spn} {CA : Option Addr} {cc : Nat} {Cs : List CutD} (h : ChE W Z l ss yb xb cb hb xa T SA sc sp CA cc Cs) (k : Kpt Z W W') : ChE W' Z l ss yb xb cb hb xa T SA sc sp CA cc Cs :=
  ⟨(k.blk _ h.s.lt h.sz).trans h.s, h.sz, h.sp.move k.fr, (k.blk _ h.y.lt h.yz).trans h.y, h.yz, (k.blk _ h.x.lt h.xz).trans h.x, h.xz, (k.blk _ h.c.lt h.cz).trans h.c, h.cz, h.row.move k.fr, fun q hq => (h.each q hq).move k.fr, (k.blk _ h.h.lt h.hz).trans h.h, h.hz⟩
/-- The one list that changes. -/
structure RowX (W : World) (D xa T : Nat) (cur : List Int) : Prop where
  len : cur.length = T
  own : W.ownsRow D 3 1 (.slice (some ⟨xa, 0, none⟩) T T) T (cur.flatMap intC)
theorem RowX.move {W W' : World} {D xa T : Nat} {cur : List Int} {P : Nat → Prop} (h : RowX W D xa T cur) (k : Kpt P W W') (hx : P xa) : RowX W' D xa T cur := by
  refine ⟨h.len, h.own.1, ?_⟩
  rcases h.own.2 with h0 | ⟨g, cap, cur, h1, h2, h3, h4⟩
  · exact .inl h0
  · refine .inr ⟨g, cap, cur, h1, h2, (k.blk g (Array.getElem?_eq_some_iff.1 h3).1 ?_).trans h3, h4⟩
    have h5 : xa = g := by simp at h1; exact h1.1
    exact h5 ▸ hx
def stepsOf (sp : List Spn) (Cs : List CutD) (k : Nat) : List Int := typL (sp.getD k default).lo (sp.getD k default).hi (Cs.getD k default).l
def restL (sp : List Spn) (Cs : List CutD) (T k : Nat) : List (List Int) := (List.range (T - k)).map fun j => stepsOf sp Cs (k + j)
/-- What is handed on when the first values are p. -/
def subV (xa : Nat) (sp : List Spn) (Cs : List CutD) (T k : Nat) (p : List Int) : List Vc := (vecs (restL sp Cs T k)).map fun s => ⟨some ⟨xa, 0, none⟩, T, p ++ s⟩
theorem restL_end (sp : List Spn) (Cs : List CutD) (T : Nat) : restL sp Cs T T = [] := by simp [restL]
theorem restL_cons (sp : List Spn) (Cs : List CutD) {T k : Nat} (h : k < T) : restL sp Cs T k = stepsOf sp Cs k :: restL sp Cs T (k + 1) := by
  unfold restL
  obtain ⟨d, hd⟩ : ∃ d, T - k = d + 1 := ⟨T - k - 1, by omega⟩
  rw [hd, show T - (k + 1) = d by omega, List.range_succ_eq_map, List.map_cons, List.map_map, Nat.add_zero]
  congr 1
  apply List.map_congr_left
  intro j _
  simp only [Function.comp]
  congr 1
  omega
theorem subV_end (xa : Nat) (sp : List Spn) (Cs : List CutD) (T : Nat) (p : List Int) : subV xa sp Cs T T p = [⟨some ⟨xa, 0, none⟩, T, p⟩] := by
  unfold subV; rw [restL_end]; simp [vecs]
theorem subV_cons (xa : Nat) (sp : List Spn) (Cs : List CutD) {T k : Nat} (h : k < T) (p : List Int) : subV xa sp Cs T k p = (stepsOf sp Cs k).flatMap fun v => subV xa sp Cs T (k + 1) (p ++ [v]) := by
  unfold subV
  rw [restL_cons sp Cs h]
  simp only [vecs, List.map_flatMap, List.map_map]
  congr 1
  funext v
  apply List.map_congr_left
  intro s _
  simp
theorem flat_prefix {α β : Type} (f : α → List β) {a b : List α} (h : a <+: b) : a.flatMap f <+: b.flatMap f := by
  obtain ⟨t, rfl⟩ := h
  exact ⟨t.flatMap f, by rw [List.flatMap_append]⟩
theorem flat_prefix2 {α β : Type} (f : α → List β) {pre : List α} {x : α} {b : List α} {q : List β} (h : pre ++ [x] <+: b) (hq : q <+: f x) : pre.flatMap f ++ q <+: b.flatMap f := by
  obtain ⟨t, rfl⟩ := h
  obtain ⟨u, hu⟩ := hq
  exact ⟨u ++ t.flatMap f, by rw [List.flatMap_append, List.flatMap_append]; simp [← hu]⟩
end Go.Proofs.YtpahcbhikmfamaaGreat
