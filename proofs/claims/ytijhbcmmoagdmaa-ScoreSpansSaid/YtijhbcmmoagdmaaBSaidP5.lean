/- The lists of typical values, in order: the closure that calls itself. -/
import Derived.Test.YtijhbcmmoagdmaaBSaidP4
import Derived.StillTailTactics
import Derived.Laws.EntriesVeiled

namespace Go.Proofs.Ytijhbcmmoagdmaa
open Go.RowKit Go.Shelf

attribute [local go_sem] Oper.semAt_some

set_option maxRecDepth 100000 in
theorem typical_in (n : Nat) (lo hi : Int) (A : Option Addr) (len c : Nat) (w : World) :
    CallsIn Fence.wide n Try.prog 67 #[.agg #[.int .i64 lo, .int .i64 hi], .slice A len c] w fun e w' => e = .returned (.func (.func 70) #[] #[.pointer (some ⟨w.heap.size, 0, none⟩), .pointer (some ⟨w.heap.size + 1, 0, none⟩)]) ∧ w' = (w.alloc (.cells #[.int .i64 lo, .int .i64 hi] 45)).alloc (.cells #[.slice A len c] 26) := by
  refine callsIn_of_wp Try.func67 rfl trivial ?_ rfl
  simp only [Try.ntmps67, List.size_toArray, List.length_cons, List.length_nil, Nat.reduceAdd, Nat.reduceSub, Array.replicate_succ, Array.replicate_zero, List.push_toArray, List.append_toArray, List.nil_append, List.cons_append]
  gi_wp2
  go_ret
  exact ⟨by simp, rfl⟩
theorem typical_stops (n : Nat) (hn : 1 ≤ n) (sb cb : Nat) (lo hi : Int) (A : Option Addr) (c : Nat) (cs : List Int) (hcs : cs.length ≤ 1000) (Q : Nat → Prop) (hsb : Q sb) (hcb : Q cb) (w : World) (k1 : Blk w sb #[.int .i64 lo, .int .i64 hi] 45) (k2 : Blk w cb #[.slice A cs.length c] 26) (hA : FlatP 1 intC w Q A cs) :
    SeqStopsK Fence.wide n Try.prog 70 #[.pointer (some ⟨sb, 0, none⟩), .pointer (some ⟨cb, 0, none⟩)] (fun x : Int => #[.int .i64 x]) (Kpt Q) (· = typL lo hi cs) (· <+: typL lo hi cs) (cs.length + 1) w :=
  fun l J Jx W hW _ _ hY h0 => typical1_in n hn l sb cb lo hi A c cs hcs Q hsb hcb J Jx hY W (k1.below hW k1.lt) (k2.below hW k2.lt) (hA.move (Fr.below hW)) h0

/-! The lists. -/
structure CutD where
  l : List Int
  A : Option Addr
  c : Nat
instance : Inhabited CutD := ⟨⟨[], none, 0⟩⟩
def cutC (x : CutD) : List Value := [.slice x.A x.l.length x.c]
theorem cutC_len (x : CutD) : (cutC x).length = 1 := rfl
/-- A list that is handed on: where it lies. -/
structure Vc where
  A : Option Addr
  c : Nat
  v : List Int
def vcC (x : Vc) : Array Value := #[.slice x.A x.v.length x.c]
def VcAt (T : Nat) (x : Vc) (w : World) : Prop := IntsAt w w.heap.size x.A x.v ∧ x.v.length = T
/-- What the closure has captured. -/
structure ChE (W : World) (Z : Nat → Prop) (l ss yb xb cb hb xa T : Nat) (SA : Option Addr) (sc : Nat) (sp : List Spn) (CA : Option Addr) (cc : Nat) (Cs : List CutD) : Prop where
  s : Blk W ss #[.slice SA T sc] 43
  sz : Z ss
  sp : FlatP 2 spnC W Z SA sp
  y : Blk W yb #[.func (.yield l) #[] #[]] 81
  yz : Z yb
  x : Blk W xb #[.slice (some ⟨xa, 0, none⟩) T T] 26
  xz : Z xb
  c : Blk W cb #[.slice CA T cc] 78
  cz : Z cb
  row : FlatP 1 cutC W Z CA Cs
  each : ∀ q ∈ Cs, FlatP 1 intC W Z q.A q.l
  h : Blk W hb #[.func (.func 66) #[] #[.pointer (some ⟨ss, 0, none⟩), .pointer (some ⟨yb, 0, none⟩), .pointer (some ⟨xb, 0, none⟩), .pointer (some ⟨cb, 0, none⟩), .pointer (some ⟨hb, 0, none⟩)]] 66
  hz : Z hb
theorem ChE.move {W W' : World} {Z : Nat → Prop} {l ss yb xb cb hb xa T : Nat} {SA : Option Addr} {sc : Nat} {sp : List Spn} {CA : Option Addr} {cc : Nat} {Cs : List CutD} (h : ChE W Z l ss yb xb cb hb xa T SA sc sp CA cc Cs) (k : Kpt Z W W') : ChE W' Z l ss yb xb cb hb xa T SA sc sp CA cc Cs :=
  ⟨(k.blk _ h.s.lt h.sz).trans h.s, h.sz, h.sp.move k.fr, (k.blk _ h.y.lt h.yz).trans h.y, h.yz, (k.blk _ h.x.lt h.xz).trans h.x, h.xz, (k.blk _ h.c.lt h.cz).trans h.c, h.cz, h.row.move k.fr, fun q hq => (h.each q hq).move k.fr, (k.blk _ h.h.lt h.hz).trans h.h, h.hz⟩
/-- The one list that changes. -/
structure RowX (W : World) (D xa T : Nat) (cur : List Int) : Prop where
  len : cur.length = T
  own : W.ownsRow D 3 1 (.slice (some ⟨xa, 0, none⟩) T T) T (cur.flatMap intC)
theorem RowX.move {W W' : World} {D xa T : Nat} {cur : List Int} {P : Nat → Prop} (h : RowX W D xa T cur) (k : Kpt P W W') (hx : P xa) : RowX W' D xa T cur := by
  refine ⟨h.len, h.own.1, ?_⟩
  rcases h.own.2 with h0 | ⟨g, cap, cur, h1, h2, h3, h4⟩
  · exact .inl h0
  · refine .inr ⟨g, cap, cur, h1, h2, (k.blk g (Array.getElem?_eq_some_iff.1 h3).1 ?_).trans h3, h4⟩
    have h5 : xa = g := by simp at h1; exact h1.1
    exact h5 ▸ hx
def stepsOf (sp : List Spn) (Cs : List CutD) (k : Nat) : List Int := typL (sp.getD k default).lo (sp.getD k default).hi (Cs.getD k default).l
def restL (sp : List Spn) (Cs : List CutD) (T k : Nat) : List (List Int) := (List.range (T - k)).map fun j => stepsOf sp Cs (k + j)
/-- What is handed on when the first values are p. -/
def subV (xa : Nat) (sp : List Spn) (Cs : List CutD) (T k : Nat) (p : List Int) : List Vc := (vecs (restL sp Cs T k)).map fun s => ⟨some ⟨xa, 0, none⟩, T, p ++ s⟩
theorem restL_end (sp : List Spn) (Cs : List CutD) (T : Nat) : restL sp Cs T T = [] := by simp [restL]
theorem restL_cons (sp : List Spn) (Cs : List CutD) {T k : Nat} (h : k < T) : restL sp Cs T k = stepsOf sp Cs k :: restL sp Cs T (k + 1) := by
  unfold restL
  obtain ⟨d, hd⟩ : ∃ d, T - k = d + 1 := ⟨T - k - 1, by omega⟩
  rw [hd, show T - (k + 1) = d by omega, List.range_succ_eq_map, List.map_cons, List.map_map, Nat.add_zero]
  congr 1
  apply List.map_congr_left
  intro j _
  simp only [Function.comp]
  congr 1
  omega
theorem subV_end (xa : Nat) (sp : List Spn) (Cs : List CutD) (T : Nat) (p : List Int) : subV xa sp Cs T T p = [⟨some ⟨xa, 0, none⟩, T, p⟩] := by
  unfold subV; rw [restL_end]; simp [vecs]
theorem subV_cons (xa : Nat) (sp : List Spn) (Cs : List CutD) {T k : Nat} (h : k < T) (p : List Int) : subV xa sp Cs T k p = (stepsOf sp Cs k).flatMap fun v => subV xa sp Cs T (k + 1) (p ++ [v]) := by
  unfold subV
  rw [restL_cons sp Cs h]
  simp only [vecs, List.map_flatMap, List.map_map]
  congr 1
  funext v
  apply List.map_congr_left
  intro s _
  simp
theorem flat_prefix {α β : Type} (f : α → List β) {a b : List α} (h : a <+: b) : a.flatMap f <+: b.flatMap f := by
  obtain ⟨t, rfl⟩ := h
  exact ⟨t.flatMap f, by rw [List.flatMap_append]⟩
theorem flat_prefix2 {α β : Type} (f : α → List β) {pre : List α} {x : α} {b : List α} {q : List β} (h : pre ++ [x] <+: b) (hq : q <+: f x) : pre.flatMap f ++ q <+: b.flatMap f := by
  obtain ⟨t, rfl⟩ := h
  obtain ⟨u, hu⟩ := hq
  exact ⟨u ++ t.flatMap f, by rw [List.flatMap_append, List.flatMap_append]; simp [← hu]⟩
end Go.Proofs.Ytijhbcmmoagdmaa

namespace Go.Proofs.Ytijhbcmmoagdmaa
open Go.RowKit Go.Shelf

attribute [local go_sem] Oper.semAt_some

/-- What a round of the caller's does. -/
def YieldOk (l D : Nat) (R : Nat → Prop) (T : Nat) (J : List Vc → World → Prop) (Jx : Nat → List Vc → World → Prop) : Prop :=
  ∀ (m : Nat) (pre : List Vc) (x : Vc) (W1 : World), J pre W1 → VcAt T x W1 → D ≤ W1.heap.size → YieldAt Fence.wide m Try.prog l (vcC x) W1 fun e W' =>
    (e = .returned (.bool true) ∧ J (pre ++ [x]) W' ∧ Kpt (fun b => R b ∨ D ≤ b) W1 W') ∨ (e = .returned (.bool false) ∧ Jx W1.heap.size (pre ++ [x]) W' ∧ Kpt (fun b => R b ∨ D ≤ b) W1 W')
def ChOk (D : Nat) (Z : Nat → Prop) (xa T : Nat) (sp : List Spn) (Cs : List CutD) (J : List Vc → World → Prop) (Jx : Nat → List Vc → World → Prop) (k : Nat) (done : List Vc) (cur : List Int) (W : World) (e : Ending) (W' : World) : Prop :=
  (e = .returned (.bool true) ∧ J (done ++ subV xa sp Cs T k (cur.take k)) W' ∧ (∃ cur', RowX W' D xa T cur' ∧ cur'.take k = cur.take k) ∧ Kpt Z W W') ∨
  (e = .returned (.bool false) ∧ (∃ M q, q <+: subV xa sp Cs T k (cur.take k) ∧ W.heap.size ≤ M ∧ Jx M (done ++ q) W') ∧ Kpt Z W W')

section
variable (l D ss yb xb cb hb xa T : Nat) (R : Nat → Prop) (SA : Option Addr) (sc : Nat) (sp : List Spn) (CA : Option Addr) (cc : Nat) (Cs : List CutD) (J : List Vc → World → Prop) (Jx : Nat → List Vc → World → Prop)

set_option maxRecDepth 100000 in
set_option maxHeartbeats 8000000 in
theorem choose_last (hsl : sp.length = T) (hcl : Cs.length = T) (hxD : D ≤ xa) (hRD : ∀ b, R b → b < D) (hT : T ≤ 1000)
    (hJ : ∀ pre A B, J pre A → Below D A B → J pre B) (hJx : ∀ M pre A B, Jx M pre A → Kx D M A B → Jx M pre B) (hY : YieldOk l D R T J Jx)
    (done : List Vc) (cur : List Int) (W : World) (hE : ChE W (fun b => b ≠ xa ∧ (R b ∨ D ≤ b)) l ss yb xb cb hb xa T SA sc sp CA cc Cs) (hX : RowX W D xa T cur) (hj : J done W) (hD : D ≤ W.heap.size) :
    CallsIn Fence.wide 8 Try.prog 66 #[.int .i64 T, .pointer (some ⟨ss, 0, none⟩), .pointer (some ⟨yb, 0, none⟩), .pointer (some ⟨xb, 0, none⟩), .pointer (some ⟨cb, 0, none⟩), .pointer (some ⟨hb, 0, none⟩)] W (ChOk D (fun b => b ≠ xa ∧ (R b ∨ D ≤ b)) xa T sp Cs J Jx T done cur W) := by
  have b1 := (Below.refl W.heap.size W).alloc (Nat.le_refl _) (.cells #[.int .i64 T] 3)
  have b2 := b1.alloc b1.size (.cells #[.bool false] 4)
  have hxl : xa < W.heap.size := by
    have := hX.own.lt xa rfl; exact this.2
  have hE2 := hE.move (Kpt.of_all b2)
  have hX2 := hX.move (P := fun _ => True) (Kpt.of_all b2) trivial
  have hsc := hE2.s.cell
  have hyc := hE2.y.cell
  have hxc := hE2.x.cell
  have kp := (Blk.new W #[.int .i64 T] 3).alloc (.cells #[.bool false] 4)
  have kr := newAt' (W.alloc (.cells #[.int .i64 T] 3)) #[.bool false] 4 (g := W.heap.size + 1) (by simp)
  have kpc := kp.cell
  have hsz : ((W.alloc (.cells #[.int .i64 T] 3)).alloc (.cells #[.bool false] 4)).heap.size = W.heap.size + 2 := by simp
  have hat : VcAt T ⟨some ⟨xa, 0, none⟩, T, cur⟩ ((W.alloc (.cells #[.int .i64 T] 3)).alloc (.cells #[.bool false] 4)) := ⟨Flat.of_own (c := T) (t := 3) (base := D) intC_len (by decide) (by show World.ownsRow _ _ _ _ (.slice (some ⟨xa, 0, none⟩) cur.length T) cur.length _; rw [hX2.len]; exact hX2.own), hX2.len⟩
  obtain ⟨fn, tmps, assign, body, hy, hR⟩ := hY 7 done ⟨some ⟨xa, 0, none⟩, T, cur⟩ _ (hJ _ _ _ hj (b2.mono hD)) hat (by omega)
  have htk : subV xa sp Cs T T (cur.take T) = [⟨some ⟨xa, 0, none⟩, T, cur⟩] := by rw [subV_end, List.take_of_length_le (by rw [hX.len]; exact Nat.le_refl _)]
  simp only [vcC, hX2.len] at hy
  refine callsIn_of_wp Try.func66 rfl trivial ?_ rfl
  simp only [Try.ntmps66, List.size_toArray, List.length_cons, List.length_nil, Nat.reduceAdd, Nat.reduceSub, Array.replicate_succ, Array.replicate_zero, List.push_toArray, List.append_toArray, List.nil_append, List.cons_append]
  clear hX2 hE2 hat
  gi_wp2
  clear hy
  have hk12 : Kpt (fun b => b ≠ xa ∧ (R b ∨ D ≤ b)) W ((W.alloc (.cells #[.int .i64 T] 3)).alloc (.cells #[.bool false] 4)) := Kpt.of_all b2
  have hk12x : Kpt (fun b => b = xa) W ((W.alloc (.cells #[.int .i64 T] 3)).alloc (.cells #[.bool false] 4)) := Kpt.of_all b2
  generalize (W.alloc (.cells #[.int .i64 T] 3)).alloc (.cells #[.bool false] 4) = W2 at *
  refine hR.mono ?_
  clear hR
  rintro e W3 (⟨rfl, hJ3, hk3⟩ | ⟨rfl, hJx3, hk3⟩)
  · have hr3 : Blk W3 (W.heap.size + 1) #[.bool false] 4 := (hk3.blk _ kr.lt (.inr (by omega))).trans kr
    have hrc := hr3.cell
    have hrf := hr3.free 0
    gi_wp2
    have hs3 := hk3.size
    have hkS : ∀ (P : Nat → Prop), ¬ P (W.heap.size + 1) → Kpt P W3 (W3.setCell ⟨W.heap.size + 1, 0, none⟩ (.bool true)) := fun P hP => Kpt.set (p := ⟨W.heap.size + 1, 0, none⟩) hP _
    have hrE := (hr3.set 0 (.bool true)).cell
    refine bodyPost_ret (v := .bool true) (by simp [results, Try.results66, go_sem, hrE]) rfl (.inl ⟨rfl, ?_, ⟨cur, ?_, rfl⟩, ?_⟩)
    · rw [htk]
      exact hJ _ _ _ hJ3 ((Below.refl D W3).setCell (p := ⟨W.heap.size + 1, 0, none⟩) (by show D ≤ W.heap.size + 1; omega) _)
    · exact ((hX.move hk12x rfl).move hk3 (.inr hxD)).move (hkS (fun b => b = xa) (by omega)) rfl
    · refine ⟨Nat.le_trans (hk12.trans (hk3.imp (fun b hb => hb.2))).size (by simp), fun b hb hp => ((hkS (fun b' => b' < W.heap.size) (by omega)).blk b (by omega) hb).trans ((hk12.trans (hk3.imp (fun b hb => hb.2))).blk b hb hp)⟩
  · have hr3 : Blk W3 (W.heap.size + 1) #[.bool false] 4 := (hk3.blk _ kr.lt (.inr (by omega))).trans kr
    have hrc := hr3.cell
    have hrf := hr3.free 0
    gi_wp2
    have hs3 := hk3.size
    have hkS : ∀ (P : Nat → Prop), ¬ P (W.heap.size + 1) → Kpt P W3 (W3.setCell ⟨W.heap.size + 1, 0, none⟩ (.bool false)) := fun P hP => Kpt.set (p := ⟨W.heap.size + 1, 0, none⟩) hP _
    have hrE := (hr3.set 0 (.bool false)).cell
    refine bodyPost_ret (v := .bool false) (by simp [results, Try.results66, go_sem, hrE]) rfl (.inr ⟨rfl, ⟨_, _, by rw [htk]; exact List.prefix_refl _, ?_, hJx _ _ _ _ hJx3 (Kx.set (p := ⟨W.heap.size + 1, 0, none⟩) (by show D ≤ W.heap.size + 1; omega) (by show W.heap.size + 1 < W2.heap.size; omega) _)⟩, ?_⟩)
    · omega
    · refine ⟨Nat.le_trans (hk12.trans (hk3.imp (fun b hb => hb.2))).size (by simp), fun b hb hp => ((hkS (fun b' => b' < W.heap.size) (by omega)).blk b (by omega) hb).trans ((hk12.trans (hk3.imp (fun b hb => hb.2))).blk b hb hp)⟩
end
end Go.Proofs.Ytijhbcmmoagdmaa

namespace Go.Proofs.Ytijhbcmmoagdmaa
open Go.RowKit Go.Shelf

attribute [local go_sem] Oper.semAt_some

section
variable (l D ss yb xb cb hb xa T : Nat) (R : Nat → Prop) (SA : Option Addr) (sc : Nat) (sp : List Spn) (CA : Option Addr) (cc : Nat) (Cs : List CutD) (J : List Vc → World → Prop) (Jx : Nat → List Vc → World → Prop)

set_option maxRecDepth 100000 in
set_option maxHeartbeats 8000000 in
theorem choose_step (k : Nat) (hkT : k < T) (hsl : sp.length = T) (hcl : Cs.length = T) (hxD : D ≤ xa) (hRD : ∀ b, R b → b < D) (hT : T ≤ 1000) (hCl : ∀ q ∈ Cs, q.l.length ≤ 1000)
    (hJ : ∀ pre A B, J pre A → Below D A B → J pre B) (hJx : ∀ M pre A B, Jx M pre A → Kx D M A B → Jx M pre B)
    (hIH : ∀ (done : List Vc) (cur : List Int) (W : World), ChE W (fun b => b ≠ xa ∧ (R b ∨ D ≤ b)) l ss yb xb cb hb xa T SA sc sp CA cc Cs → RowX W D xa T cur → J done W → D ≤ W.heap.size →
      Calls Try.prog 66 #[.int .i64 ((k : Int) + 1), .pointer (some ⟨ss, 0, none⟩), .pointer (some ⟨yb, 0, none⟩), .pointer (some ⟨xb, 0, none⟩), .pointer (some ⟨cb, 0, none⟩), .pointer (some ⟨hb, 0, none⟩)] W (ChOk D (fun b => b ≠ xa ∧ (R b ∨ D ≤ b)) xa T sp Cs J Jx (k + 1) done cur W))
    (done : List Vc) (cur : List Int) (W : World) (hE : ChE W (fun b => b ≠ xa ∧ (R b ∨ D ≤ b)) l ss yb xb cb hb xa T SA sc sp CA cc Cs) (hX : RowX W D xa T cur) (hj : J done W) (hD : D ≤ W.heap.size) :
    CallsIn Fence.wide 8 Try.prog 66 #[.int .i64 k, .pointer (some ⟨ss, 0, none⟩), .pointer (some ⟨yb, 0, none⟩), .pointer (some ⟨xb, 0, none⟩), .pointer (some ⟨cb, 0, none⟩), .pointer (some ⟨hb, 0, none⟩)] W (ChOk D (fun b => b ≠ xa ∧ (R b ∨ D ≤ b)) xa T sp Cs J Jx k done cur W) := by
  have h1 : (1 : Nat) ≤ 8 := by omega
  have hfn : ∀ f, Fence.wide.fn f := fun _ => trivial
  have hdep : Fence.wide.depth.isSome = false := rfl
  have hmx : Try.prog.follows .mixedOrders = true := by kernel_rfl
  have b1 := (Below.refl W.heap.size W).alloc (Nat.le_refl _) (.cells #[.int .i64 k] 3)
  have b2 := b1.alloc b1.size (.cells #[.bool false] 4)
  have hxl : xa < W.heap.size := by
    have := hX.own.lt xa rfl; exact this.2
  have hE2 := hE.move (Kpt.of_all b2)
  have hX2 := hX.move (P := fun _ => True) (Kpt.of_all b2) trivial
  have hsc := hE2.s.cell
  have hcc := hE2.c.cell
  have kp := (Blk.new W #[.int .i64 k] 3).alloc (.cells #[.bool false] 4)
  have kr := newAt' (W.alloc (.cells #[.int .i64 k] 3)) #[.bool false] 4 (g := W.heap.size + 1) (by simp)
  have kpc := kp.cell
  have hsz : ((W.alloc (.cells #[.int .i64 k] 3)).alloc (.cells #[.bool false] 4)).heap.size = W.heap.size + 2 := by simp
  have hne : ((k : Int) == (T : Int)) = false := by simp; omega
  have hkT' : (k : Int) < (T : Int) := by omega
  have hk12 : Kpt (fun b => b ≠ xa ∧ (R b ∨ D ≤ b)) W ((W.alloc (.cells #[.int .i64 k] 3)).alloc (.cells #[.bool false] 4)) := Kpt.of_all b2
  have hk12x : Kpt (fun b => b = xa) W ((W.alloc (.cells #[.int .i64 k] 3)).alloc (.cells #[.bool false] 4)) := Kpt.of_all b2
  have hj2 := hJ _ _ _ hj (b2.mono hD)
  obtain ⟨bs, os, rfl, hbs, hbsZ, hcs⟩ := hE2.sp k (by omega)
  obtain ⟨bc, oc, rfl, hbc, hbcZ, hccs⟩ := hE2.row k (by omega)
  have hmem : Cs[k] ∈ Cs := List.getElem_mem (by omega)
  have hEk := hE2.each _ hmem
  have hckl := hCl _ hmem
  have hst : stepsOf sp Cs k = typL sp[k].lo sp[k].hi Cs[k].l := by unfold stepsOf; rw [getD_lt sp default (by omega), getD_lt Cs default (by omega)]
  have cs0 := hcs 0 (by omega)
  have cs1 := hcs 1 (by omega)
  have cc0 := hccs 0 (by omega)
  simp only [spnC, cutC, Nat.add_zero, Nat.mul_one, List.getElem?_cons_zero, List.getElem?_cons_succ] at cs0 cs1 cc0
  clear hcs hccs
  generalize sp[k] = s at *
  generalize Cs[k] = q at *
  refine callsIn_of_wp_marks Try.func66 rfl trivial ?_ rfl
  simp only [Try.ntmps66, List.size_toArray, List.length_cons, List.length_nil, Nat.reduceAdd, Nat.reduceSub, Array.replicate_succ, Array.replicate_zero, List.push_toArray, List.append_toArray, List.nil_append, List.cons_append]
  gi_wp2
  generalize hW2 : (W.alloc (.cells #[.int .i64 k] 3)).alloc (.cells #[.bool false] 4) = W2 at *
  refine wpIn_wide.2 ?_
  refine wp_region_still_tail 8 (by kernel_rfl) (by kernel_rfl) ?_
  simp only [List.take_succ_cons, List.take_zero, List.drop_succ_cons, List.drop_zero]
  repeat still_step
  refine wpStill_nil ?_
  change wpList _ _ _ _ _ W2.drew
  go_wp2_with (go_at_call 67; (with_reducible refine ((callsIn_wide (n := 7)).1 (typical_in 7 s.lo s.hi q.A q.l.length q.c W2.drew)).mono ?_); rintro e w5 ⟨rfl, rfl⟩)
  have b5 : Below W2.heap.size W2 (((W2.alloc (.cells #[.int .i64 s.lo, .int .i64 s.hi] 45)).alloc (.cells #[.slice q.A q.l.length q.c] 26)).drew) := (((Below.refl _ _).alloc (Nat.le_refl _) _).alloc (by simp) _).drew
  have s1 : Blk (((W2.alloc (.cells #[.int .i64 s.lo, .int .i64 s.hi] 45)).alloc (.cells #[.slice q.A q.l.length q.c] 26)).drew) (W.heap.size + 2) #[.int .i64 s.lo, .int .i64 s.hi] 45 := ((newAt' W2 _ _ hsz.symm).alloc _).drew
  have s2 : Blk (((W2.alloc (.cells #[.int .i64 s.lo, .int .i64 s.hi] 45)).alloc (.cells #[.slice q.A q.l.length q.c] 26)).drew) (W.heap.size + 2 + 1) #[.slice q.A q.l.length q.c] 26 := (newAt' _ _ _ (by simp; omega)).drew
  have hs5 : (((W2.alloc (.cells #[.int .i64 s.lo, .int .i64 s.hi] 45)).alloc (.cells #[.slice q.A q.l.length q.c] 26)).drew).heap.size = W.heap.size + 4 := by simp; omega
  have hk5 : ∀ P, Kpt P W2 (((W2.alloc (.cells #[.int .i64 s.lo, .int .i64 s.hi] 45)).alloc (.cells #[.slice q.A q.l.length q.c] 26)).drew) := fun P => Kpt.of_all b5
  generalize (((W2.alloc (.cells #[.int .i64 s.lo, .int .i64 s.hi] 45)).alloc (.cells #[.slice q.A q.l.length q.c] 26)).drew) = W5 at *
  have hq1 : (W.heap.size + 2 ≠ xa ∧ (R (W.heap.size + 2) ∨ D ≤ W.heap.size + 2)) ∧ W.heap.size + 2 < W5.heap.size := ⟨⟨by omega, .inr (by omega)⟩, by omega⟩
  have hq2 : (W.heap.size + 2 + 1 ≠ xa ∧ (R (W.heap.size + 2 + 1) ∨ D ≤ W.heap.size + 2 + 1)) ∧ W.heap.size + 2 + 1 < W5.heap.size := ⟨⟨by omega, .inr (by omega)⟩, by omega⟩
  have hqA : FlatP 1 intC W5 (fun b => (b ≠ xa ∧ (R b ∨ D ≤ b)) ∧ b < W5.heap.size) q.A q.l := (hEk.move (hk5 _).fr).imp (fun b hb hp => ⟨hp, hb⟩)
  have hE5 := hE2.move (hk5 _)
  have hX5 := hX2.move (hk5 (fun _ => True)) trivial
  have hj5 := hJ _ _ _ hj2 (b5.mono (by omega))
  have kp5 : Blk W5 W.heap.size #[.int .i64 k] 3 := ((hk5 (fun _ => True)).blk _ kp.lt trivial).trans kp
  have kr5 : Blk W5 (W.heap.size + 1) #[.bool false] 4 := ((hk5 (fun _ => True)).blk _ kr.lt trivial).trans kr
  have hkW5 : Kpt (fun b => b ≠ xa ∧ (R b ∨ D ≤ b)) W W5 := hk12.trans (hk5 _)
  have hlen := hX.len
  have hwk : IntKind.i64.wrap ((k : Int) + 1) = (k : Int) + 1 := IntWalk.i64_in _ (by omega)
  clear hX2 hE2 hEk hj2 hmem b5 b1 b2 hk12 hk12x hk5 hW2 cs0 cs1 cc0 hsc hcc kpc kp kr hE hX hj
  obtain ⟨fv, hfv⟩ : ∃ fv : Int → List Vc, fv = fun v => subV xa sp Cs T (k + 1) (cur.take k ++ [v]) := ⟨_, rfl⟩
  have hsub : subV xa sp Cs T k (cur.take k) = (typL s.lo s.hi q.l).flatMap fv := by rw [subV_cons xa sp Cs hkT, hst, hfv]
  gi_wp2
  refine wpIn_rangeFunc_ownG_of_H (F := Fence.wide) rfl h1 (gf := 70) (lb := #[.pointer (some ⟨W.heap.size + 2, 0, none⟩), .pointer (some ⟨W.heap.size + 2 + 1, 0, none⟩)]) rfl trivial (enters_of Try.func70 (by kernel_rfl) rfl)
    (typical_stops 7 (by omega) (W.heap.size + 2) (W.heap.size + 2 + 1) s.lo s.hi q.A q.c q.l hckl (fun b => (b ≠ xa ∧ (R b ∨ D ≤ b)) ∧ b < W5.heap.size) hq1 hq2 W5 s1 s2 hqA)
    (fun h k => h.trans k) (fun Wa la o o' hl _ _ _ => Kpt.put (fun h => by have := h.2; omega) o') (Below.refl _ _) (fun _ => rfl)
    (fun pre Wa => J (done ++ pre.flatMap fv) Wa ∧ (∃ cur', RowX Wa D xa T cur' ∧ cur'.take k = cur.take k) ∧ Kpt (fun b => b ≠ xa ∧ (R b ∨ D ≤ b)) W5 Wa)
    (fun c pre Wa => c = .ret ∧ (∃ M q', q' <+: pre.flatMap fv ∧ W5.heap.size ≤ M ∧ Jx M (done ++ q') Wa) ∧ Kpt (fun b => (b ≠ xa ∧ (R b ∨ D ≤ b)) ∧ b ≠ W.heap.size + 1) W5 Wa ∧ Blk Wa (W.heap.size + 1) #[.bool false] 4)
    ?own ?ownx ⟨by simpa using hj5, ⟨cur, hX5, rfl⟩, Kpt.refl _ _⟩
    (fun x => { tmps := #[.int .i64 k, .pointer (some ⟨ss, 0, none⟩), .pointer (some ⟨yb, 0, none⟩), .pointer (some ⟨xb, 0, none⟩), .pointer (some ⟨cb, 0, none⟩), .pointer (some ⟨hb, 0, none⟩), .pointer (some ⟨W.heap.size, 0, none⟩), .pointer (some ⟨W.heap.size + 1, 0, none⟩), .int .i64 x, .int .i64 k, .slice (some ⟨bs, os, none⟩) T sc, .int .i64 T, .bool false, undef, undef, undef, .slice (some ⟨bs, os, none⟩) T sc, .int .i64 k, .pointer (some ⟨bs, os + k * 2, none⟩), .agg #[.int .i64 s.lo, .int .i64 s.hi], .slice (some ⟨bc, oc, none⟩) T cc, .int .i64 k, .pointer (some ⟨bc, oc + k, none⟩), .slice q.A q.l.length q.c, .func (.func 70) #[] #[.pointer (some ⟨W.heap.size + 2, 0, none⟩), .pointer (some ⟨W.heap.size + 2 + 1, 0, none⟩)], .int .i64 x, undef, undef, undef, undef, undef, undef, undef, undef, undef], defers := [] }) ?assign ?body ?done ?stop (fun Wa => Kpt.refl _ _)
  case own =>
    intro pre A B row hs hg hr
    obtain ⟨h1', ⟨cur', h2', h3'⟩, h4'⟩ := hs
    have hsz4 := h4'.size
    refine ⟨hJ _ _ _ h1' ((Below.refl D A).grown hg (by omega) (fun r e => by have := (hr r e).1; omega)), ⟨cur', h2'.move (P := fun b => b = xa) ⟨hg.size, fun b hb hp => hg.block b hb (fun e => by have := (hr b e.symm).1; omega)⟩ rfl, h3'⟩, ⟨Nat.le_trans h4'.size hg.size, fun b hb hp => (hg.block b (by omega) (fun e => by have := (hr b e.symm).1; omega)).trans (h4'.blk b hb hp)⟩⟩
  case ownx =>
    intro c pre A B row hs hg hr
    obtain ⟨hc', ⟨M, q', h1', h2', h3'⟩, h4', h5'⟩ := hs
    have hsz4 := h4'.size
    refine ⟨hc', ⟨M, q', h1', h2', hJx _ _ _ _ h3' (Kx.own hg (by omega) hr)⟩, ⟨Nat.le_trans h4'.size hg.size, fun b hb hp => (hg.block b (by omega) (fun e => by have := (hr b e.symm).1; omega)).trans (h4'.blk b hb hp)⟩, (hg.block _ h5'.lt (fun e => by have := (hr _ e.symm).1; omega)).trans h5'⟩
  case assign =>
    intro la x Wa K hK
    gi_wp2
    exact hK
  case body =>
    rintro la pre x Wa ⟨h1', ⟨cur', h2', h3'⟩, h4'⟩ hlen'
    have hsz4 := h4'.size
    have hEa := hE5.move h4'
    have hxc := hEa.x.cell
    have hhc := hEa.h.cell
    have hpc := (show Blk Wa W.heap.size #[.int .i64 k] 3 from (h4'.blk _ kp5.lt ⟨by omega, .inr (by omega)⟩).trans kp5).cell
    have hl2 := h2'.len
    have hfx := h2'.own.frozenAt k
    have hcx : Wa.cell? ⟨xa, k, none⟩ = some (.int .i64 cur'[k]) := (h2'.own.cellAt k (by omega)).trans (by have := flat_get intC_len cur' k (by omega) 0 (by omega); rw [Nat.mul_one, Nat.add_zero] at this; rw [this]; rfl)
    have hSb : ∀ P : Nat → Prop, ¬ P xa → Kpt P Wa (Wa.setCell ⟨xa, k, none⟩ (.int .i64 x)) := fun P hP => Kpt.set (p := ⟨xa, k, none⟩) hP _
    have hEb := hEa.move (hSb (fun b => b ≠ xa ∧ (R b ∨ D ≤ b)) (fun h => h.1 rfl))
    have hhb := hEb.h.cell
    have hpb := (show Blk (Wa.setCell ⟨xa, k, none⟩ (.int .i64 x)) W.heap.size #[.int .i64 k] 3 from ((hSb (fun b => b ≠ xa) (fun h => h rfl)).blk _ (by omega) (by omega)).trans ((h4'.blk _ kp5.lt ⟨by omega, .inr (by omega)⟩).trans kp5)).cell
    have hRb : RowX (Wa.setCell ⟨xa, k, none⟩ (.int .i64 x)) D xa T (cur'.set k x) := by
      refine ⟨by rw [List.length_set]; exact hl2, ?_⟩
      have := flat_set (f := intC) intC_len cur' k (by omega) x 0 (.int .i64 x) (by omega) rfl
      rw [Nat.mul_one, Nat.add_zero] at this
      rw [this]
      exact (h2'.own.stored k (.int .i64 x)).1
    have hjb : J (done ++ pre.flatMap fv) (Wa.setCell ⟨xa, k, none⟩ (.int .i64 x)) := hJ _ _ _ h1' ((Below.refl D Wa).setCell (p := ⟨xa, k, none⟩) hxD _)
    have htk : (cur'.set k x).take (k + 1) = cur.take k ++ [x] := by
      rw [List.take_succ_eq_append_getElem (by rw [List.length_set]; omega), List.getElem_set_self, List.take_set_of_le (Nat.le_refl _), h3']
    have hI1 := hIH (done ++ pre.flatMap fv) (cur'.set k x) _ hEb hRb hjb (by simp; omega)
    unfold ChOk at hI1
    rw [htk] at hI1
    have hfx1 : fv x = subV xa sp Cs T (k + 1) (cur.take k ++ [x]) := by rw [hfv]
    rw [← hfx1] at hI1
    have HI1 := Lib.hid (CallsIn.inRound la ((callsIn_wide (n := 5)).2 hI1))
    clear hI1 hIH
    have HKR : Hid (∀ Wc, Kpt (fun b => b ≠ xa ∧ (R b ∨ D ≤ b)) (Wa.setCell ⟨xa, k, none⟩ (.int .i64 x)) Wc → Blk Wc (W.heap.size + 1) #[.bool false] 4) := Lib.hid (fun Wc hkc => (hkc.blk _ (by simp; omega) ⟨by omega, .inr (by omega)⟩).trans (((hSb (fun b => b ≠ xa) (fun h => h rfl)).blk _ (by omega) (by omega)).trans ((h4'.blk _ kr5.lt ⟨by omega, .inr (by omega)⟩).trans kr5)))
    gi_wp2_with (gi_at_call 66; refine (HI1.out).mono ?_; (rintro e Wc (⟨rfl, hJc, ⟨cur3, hR3, ht3⟩, hk3⟩ | ⟨rfl, ⟨M, q', hq', hM, hx'⟩, hk3⟩) <;> (have krw := HKR.out _ hk3; have krwc := krw.cell; have krwf := krw.free 0)))
    · have hk6 : Kpt (fun b => b ≠ xa ∧ (R b ∨ D ≤ b)) Wa Wc := (hSb (fun b => b ≠ xa ∧ (R b ∨ D ≤ b)) (fun h => h.1 rfl)).trans hk3
      have hxs : xa < W5.heap.size := by omega
      refine ⟨⟨hk6.size, fun b o hb hbo _ => (hk6.blk b (Array.getElem?_eq_some_iff.1 hbo).1 ⟨by omega, .inr (by omega)⟩).trans hbo⟩, hk6.imp (fun b hb => hb.1), ?_, ⟨cur3, hR3, ?_⟩, h4'.trans hk6⟩
      · rw [List.flatMap_append, List.append_assoc] at *
        simpa using hJc
      · have h8 := congrArg (List.take k) ht3
        rw [List.take_take, Nat.min_eq_left (by omega), List.take_append_of_le_length (by rw [List.length_take]; omega), List.take_take, Nat.min_self] at h8
        exact h8
    · have hk6 : Kpt (fun b => b ≠ xa ∧ (R b ∨ D ≤ b)) Wa Wc := (hSb (fun b => b ≠ xa ∧ (R b ∨ D ≤ b)) (fun h => h.1 rfl)).trans hk3
      have hs6 := hk6.size
      have hsb : (Wa.setCell ⟨xa, k, none⟩ (.int .i64 x)).heap.size = Wa.heap.size := by simp
      have hk7 : Kpt (fun b => (b ≠ xa ∧ (R b ∨ D ≤ b)) ∧ b ≠ W.heap.size + 1) Wa (Wc.setCell ⟨W.heap.size + 1, 0, none⟩ (.bool false)) := (hk6.imp (fun b hb => hb.1)).trans (Kpt.set (p := ⟨W.heap.size + 1, 0, none⟩) (fun h => h.2 rfl) _)
      refine ⟨⟨hk7.size, fun b o hb hbo _ => (hk7.blk b (Array.getElem?_eq_some_iff.1 hbo).1 ⟨⟨by omega, .inr (by omega)⟩, by omega⟩).trans hbo⟩, rfl, ⟨M, pre.flatMap fv ++ q', flat_prefix2 fv (List.prefix_refl _) hq', by omega, ?_⟩, (h4'.imp (fun b hb => hb.1)).trans hk7, ?_⟩
      · rw [← List.append_assoc]
        exact hJx _ _ _ _ hx' (Kx.set (p := ⟨W.heap.size + 1, 0, none⟩) (by show D ≤ W.heap.size + 1; omega) (by show W.heap.size + 1 < M; omega) _)
      · have := krw.set 0 (.bool false)
        simpa using this
  case done =>
    rintro DD xs Wa hDD rfl ⟨h1', ⟨cur', h2', h3'⟩, h4'⟩ hK
    have hsz4 := h4'.size
    have krw : Blk Wa (W.heap.size + 1) #[.bool false] 4 := (h4'.blk _ kr5.lt ⟨by omega, .inr (by omega)⟩).trans kr5
    have krc := krw.cell
    have krf := krw.free 0
    gi_wp2
    have hK2 : (Wa.setCell ⟨W.heap.size + 1, 0, none⟩ (.bool true)).heap[DD]? = some (.deferred (some [])) := (Below.heap_setCell _ _ _ _ (by show DD ≠ W.heap.size + 1; omega)).trans hK
    have hrE : Blk ((Wa.setCell ⟨W.heap.size + 1, 0, none⟩ (.bool true)).putObj DD (.deferred none)) (W.heap.size + 1) #[.bool true] 4 := (World.putObj_heap_other (by omega)).trans (krw.set 0 (.bool true))
    have hrEc := hrE.cell
    have hlD : DD < (Wa.setCell ⟨W.heap.size + 1, 0, none⟩ (.bool true)).heap.size := (Array.getElem?_eq_some_iff.1 hK2).1
    have hkE : ∀ P : Nat → Prop, ¬ P (W.heap.size + 1) → ¬ P DD → Kpt P Wa ((Wa.setCell ⟨W.heap.size + 1, 0, none⟩ (.bool true)).putObj DD (.deferred none)) := fun P hP hP' => (Kpt.set (p := ⟨W.heap.size + 1, 0, none⟩) hP _).trans (Kpt.put hP' _)
    refine ⟨by simp, .inl ⟨_, _, rfl, run_takeDeferred hK2, ?_⟩⟩
    refine ⟨.bool true, by simp [results, Try.results66, go_sem, hrEc], .inl ⟨rfl, ?_, ⟨cur', ?_, h3'⟩, ?_⟩⟩
    · rw [hsub]
      exact hJ _ _ _ h1' (((Below.refl D Wa).setCell (p := ⟨W.heap.size + 1, 0, none⟩) (by show D ≤ W.heap.size + 1; omega) _).trans (below_putObj _ _ _ (by omega) hlD))
    · exact h2'.move (hkE (fun b => b = xa) (by omega) (by omega)) rfl
    · have hk6 := hkW5.trans h4'
      exact ⟨Nat.le_trans hk6.size (by simp), fun b hb hp => ((hkE (fun b' => b' < W.heap.size) (by omega) (by omega)).blk b (by omega) hb).trans (hk6.blk b hb hp)⟩
  case stop =>
    rintro DD c pre Wa hDD hpre ⟨rfl, ⟨M, q', h1', h2', h3'⟩, h4', h5'⟩ hK
    have hsz4 := h4'.size
    have hDl := (Array.getElem?_eq_some_iff.1 hK).1
    have krc := h5'.cell
    gi_wp2
    have hrE : Blk (Wa.putObj DD (.deferred none)) (W.heap.size + 1) #[.bool false] 4 := (World.putObj_heap_other (by omega)).trans h5'
    have hrEc := hrE.cell
    refine ⟨by simp, .inl ⟨_, _, rfl, run_takeDeferred hK, ?_⟩⟩
    refine ⟨.bool false, by simp [results, Try.results66, go_sem, hrEc], .inr ⟨rfl, ⟨M, q', ?_, by omega, hJx _ _ _ _ h3' (Kx.own (B := DD) (grownBy_putObj' Wa DD (.deferred none)) (by omega) (fun r e => by cases e; exact ⟨Nat.le_refl _, _, hK, rfl⟩))⟩, ?_⟩⟩
    · rw [hsub]
      exact h1'.trans (flat_prefix fv hpre)
    · have hk6 := hkW5.imp (fun b (hp : b ≠ xa ∧ (R b ∨ D ≤ b)) => hp)
      refine ⟨Nat.le_trans hk6.size (Nat.le_trans h4'.size (by simp)), fun b hb hp => ?_⟩
      have h7 := hk6.size
      exact ((Kpt.put (P := fun b' => b' < W.heap.size) (A := Wa) (l := DD) (by omega) (.deferred none)).blk b (by omega) hb).trans ((h4'.blk b (by omega) ⟨hp, by omega⟩).trans (hk6.blk b hb hp))
end
end Go.Proofs.Ytijhbcmmoagdmaa

namespace Go.Proofs.Ytijhbcmmoagdmaa
open Go.RowKit Go.Shelf

attribute [local go_sem] Oper.semAt_some

theorem yieldAt_wide {m : Nat} (m' : Nat) {P : Program} {l : Nat} {args : Array Value} {W : World} {R : Ending → World → Prop} (h : YieldAt Fence.wide m P l args W R) : YieldAt Fence.wide m' P l args W R := by
  obtain ⟨fn, tmps, assign, body, hy, hR⟩ := h
  exact ⟨fn, tmps, assign, body, hy, hR.1, fun c cs _ => hR.2 c cs (fun d h => by cases h)⟩
section
variable (l D ss yb xb cb hb xa T : Nat) (R : Nat → Prop) (SA : Option Addr) (sc : Nat) (sp : List Spn) (CA : Option Addr) (cc : Nat) (Cs : List CutD) (J : List Vc → World → Prop) (Jx : Nat → List Vc → World → Prop)

theorem choose_all (hsl : sp.length = T) (hcl : Cs.length = T) (hxD : D ≤ xa) (hRD : ∀ b, R b → b < D) (hT : T ≤ 1000) (hCl : ∀ q ∈ Cs, q.l.length ≤ 1000)
    (hJ : ∀ pre A B, J pre A → Below D A B → J pre B) (hJx : ∀ M pre A B, Jx M pre A → Kx D M A B → Jx M pre B) (hY : YieldOk l D R T J Jx) :
    ∀ (d k : Nat), k + d = T → ∀ (done : List Vc) (cur : List Int) (W : World), ChE W (fun b => b ≠ xa ∧ (R b ∨ D ≤ b)) l ss yb xb cb hb xa T SA sc sp CA cc Cs → RowX W D xa T cur → J done W → D ≤ W.heap.size →
      Calls Try.prog 66 #[.int .i64 k, .pointer (some ⟨ss, 0, none⟩), .pointer (some ⟨yb, 0, none⟩), .pointer (some ⟨xb, 0, none⟩), .pointer (some ⟨cb, 0, none⟩), .pointer (some ⟨hb, 0, none⟩)] W (ChOk D (fun b => b ≠ xa ∧ (R b ∨ D ≤ b)) xa T sp Cs J Jx k done cur W)
  | 0, k, hk, done, cur, W, hE, hX, hj, hD => by
    obtain rfl : k = T := by omega
    exact (callsIn_wide (n := 8)).1 (choose_last l D ss yb xb cb hb xa k R SA sc sp CA cc Cs J Jx hsl hcl hxD hRD hT hJ hJx hY done cur W hE hX hj hD)
  | d + 1, k, hk, done, cur, W, hE, hX, hj, hD =>
    (callsIn_wide (n := 8)).1 (choose_step l D ss yb xb cb hb xa T R SA sc sp CA cc Cs J Jx k (by omega) hsl hcl hxD hRD hT hCl hJ hJx
      (fun done cur W hE hX hj hD => by
        have := choose_all hsl hcl hxD hRD hT hCl hJ hJx hY d (k + 1) (by omega) done cur W hE hX hj hD
        rw [show ((k + 1 : Nat) : Int) = (k : Int) + 1 by omega] at this
        exact this)
      done cur W hE hX hj hD)
end

theorem make_int (T : Nat) (hT : T ≤ 1000) (W : World) : (Instr.makeSlice 26 (.int .i64 (T : Int)) (.int .i64 (T : Int))).run Try.prog W = .ok (.slice (some ⟨W.heap.size, 0, none⟩) T T) (W.alloc (.cells (madeCells #[.int .i64 0] T) 3)) := by
  obtain ⟨i, hi, hz0, hz1, hz2⟩ := info_parts intInfo
  have := run_makeSlice (P := Try.prog) W 26 3 i _ Try.underlying26 hi hz0 .i64 .i64 (T : Int) (T : Int) (by omega) (Int.le_refl _) (by rw [hz1]; simp; omega) (by rw [hz2]; simp; omega) (by omega)
  rw [hz1, show (Value.int .i64 0).cells = #[.int .i64 0] from rfl] at this
  simpa using this
theorem rowX_made (W : World) (D T : Nat) (hD : D ≤ W.heap.size) (hT : T ≤ 1000) : RowX (W.alloc (.cells (madeCells #[.int .i64 0] T) 3)) D W.heap.size T (List.replicate T 0) := by
  refine ⟨by simp, ?_⟩
  have h := World.ownsRow_lit (size := 1) (e := 3) W (madeCells #[.int .i64 0] T) T hD (by unfold maxLen; omega) (by rw [size_madeCells]; simp)
  rw [toList_madeCells_one] at h
  have e : (List.replicate T (0 : Int)).flatMap intC = List.replicate T (Value.int .i64 0) := by
    clear h hD hT
    induction T with
    | zero => rfl
    | succ T ih => rw [List.replicate_succ, List.flatMap_cons, ih, List.replicate_succ]; rfl
  rw [e]
  exact h
/-- What the program's cuts of a model are. -/
def CutsS (w : World) (T : Nat) (cs : Nat → List Int) (e : Ending) (w' : World) : Prop :=
  ∃ CA cc Cs, e = .returned (.slice CA T cc) ∧ List.length Cs = T ∧ FlatP 1 cutC w' (fun b => w.heap.size ≤ b) CA Cs ∧ (∀ q ∈ Cs, FlatP 1 intC w' (fun b => w.heap.size ≤ b) q.A q.l) ∧ (∀ k, (Cs.getD k default).l = if k < T then ordI (cs k) else []) ∧ (∀ q ∈ Cs, q.l.length ≤ 1000) ∧ Below w.heap.size w w'
/-- All that is handed on. -/
def listsS (T : Nat) (sp : List Spn) (cs : Nat → List Int) : List (List Int) := vecs ((List.range T).map fun k => stepsI (sp.getD k default).lo (sp.getD k default).hi (cs k))
theorem restL_cuts {sp : List Spn} {Cs : List CutD} {T : Nat} {cs : Nat → List Int} (h : ∀ k, (Cs.getD k default).l = if k < T then ordI (cs k) else []) : restL sp Cs T 0 = (List.range T).map fun k => stepsI (sp.getD k default).lo (sp.getD k default).hi (cs k) := by
  unfold restL
  apply List.map_congr_left
  intro k hk
  rw [List.mem_range, Nat.sub_zero] at hk
  rw [Nat.zero_add, stepsOf, h k, if_pos hk, typL, typ_eq]

set_option maxRecDepth 100000 in
set_option maxHeartbeats 8000000 in
theorem lists1_stops (n : Nat) (ms ss T : Nat) (traits need : Int) (C T' S SA : Option Addr) (cl c tl t n' s sc : Nat) (sp : List Spn) (cs : Nat → List Int) (R : Nat → Prop) (hT : T ≤ 1000) (hsp : sp.length = T) (w : World)
    (km : Blk w ms #[.int .i64 traits, .slice C cl c, .slice T' tl t, .int .i64 need, .slice S n' s] 62) (ks : Blk w ss #[.slice SA T sc] 43) (hss : R ss) (hR : ∀ b, R b → b < w.heap.size) (hS : FlatP 2 spnC w R SA sp)
    (HC : ∀ W, Below w.heap.size w W → Calls Try.prog 65 #[.agg #[.int .i64 traits, .slice C cl c, .slice T' tl t, .int .i64 need, .slice S n' s]] W (CutsS W T cs)) :
    SeqM Fence.wide n Try.prog 64 #[.pointer (some ⟨ms, 0, none⟩), .pointer (some ⟨ss, 0, none⟩)] vcC (VcAt T) R (fun xs => xs.map Vc.v = listsS T sp cs) (fun pre => pre.map Vc.v <+: listsS T sp cs) w := by
  intro l J Jx W hW hJ hJx hY h0
  have hY' : YieldOk l W.heap.size R T J Jx := fun m pre x W1 h1 h2 h3 => yieldAt_wide m (hY pre x W1 h1 h2 h3)
  refine callsIn_wide.2 ?_
  have b1 := (Below.refl W.heap.size W).alloc (Nat.le_refl _) (.cells #[.func (.yield l) #[] #[]] 81)
  have kmW := km.below hW km.lt
  have kmc := (kmW.below b1 kmW.lt).cell
  have HC1 := Lib.hid (HC _ (hW.trans (b1.mono hW.size)))
  obtain ⟨i4, hi4, hq0, hq1, hq2⟩ := info_parts intInfo
  have hssw : ss < w.heap.size := hR ss hss
  have hTi : IntKind.i64.wrap (T : Int) = (T : Int) := IntWalk.i64_in _ (by omega)
  go_enter Try.func64, Try.ntmps64
  have hmk := make_int T hT
  go_upto_region 5 with (go_at_call 65; (with_reducible refine (HC1.out).mono ?_); rintro e w1 ⟨CA, cc, Cs, rfl, hCl, hCrow, hCeach, hCq, hCb, hB1⟩; have hw1 := (hW.trans (b1.mono hW.size)).trans (hB1.mono (by simp; have := hW.size; omega)); have ksc := ((ks.below hw1 hssw).alloc (.cells #[.slice CA T cc] 78)).cell; have kh := newAt' (((w1.alloc (.cells #[.slice CA T cc] 78)).alloc (.cells (madeCells #[.int .i64 0] T) 3)).alloc (.cells #[.slice (some ⟨w1.heap.size + 1, 0, none⟩) T T] 26)) #[.nilFunc] 66 (g := w1.heap.size + 1 + 1 + 1) (by simp); have khc := kh.cell; have khf := kh.free 0)
  have hs1 : W.heap.size + 1 ≤ w1.heap.size := by have := hB1.size; simp at this; exact this
  have c2 := Blk.new w1 #[.slice CA T cc] 78
  have b2 := (Below.refl w1.heap.size w1).alloc (Nat.le_refl _) (.cells #[.slice CA T cc] 78)
  have b3 := b2.alloc b2.size (.cells (madeCells #[.int .i64 0] T) 3)
  have b4 := b3.alloc b3.size (.cells #[.slice (some ⟨w1.heap.size + 1, 0, none⟩) T T] 26)
  have b5 := b4.alloc b4.size (.cells #[.func (.func 66) #[] #[.pointer (some ⟨ss, 0, none⟩), .pointer (some ⟨W.heap.size, 0, none⟩), .pointer (some ⟨w1.heap.size + 1 + 1, 0, none⟩), .pointer (some ⟨w1.heap.size, 0, none⟩), .pointer (some ⟨w1.heap.size + 1 + 1 + 1, 0, none⟩)]] 66)
  have hX3 := rowX_made (w1.alloc (.cells #[.slice CA T cc] 78)) W.heap.size T (by simp; omega) hT
  rw [show (w1.alloc (.cells #[.slice CA T cc] 78)).heap.size = w1.heap.size + 1 by simp] at hX3
  have r4 : Kpt (fun _ => True) ((w1.alloc (.cells #[.slice CA T cc] 78)).alloc (.cells (madeCells #[.int .i64 0] T) 3)) ((((w1.alloc (.cells #[.slice CA T cc] 78)).alloc (.cells (madeCells #[.int .i64 0] T) 3)).alloc (.cells #[.slice (some ⟨w1.heap.size + 1, 0, none⟩) T T] 26)).alloc (.cells #[.func (.func 66) #[] #[.pointer (some ⟨ss, 0, none⟩), .pointer (some ⟨W.heap.size, 0, none⟩), .pointer (some ⟨w1.heap.size + 1 + 1, 0, none⟩), .pointer (some ⟨w1.heap.size, 0, none⟩), .pointer (some ⟨w1.heap.size + 1 + 1 + 1, 0, none⟩)]] 66)) := Kpt.of_all (((Below.refl _ _).alloc (Nat.le_refl _) _).alloc (by simp) _)
  have hX5 := hX3.move r4 trivial
  have k2 : Blk ((((w1.alloc (.cells #[.slice CA T cc] 78)).alloc (.cells (madeCells #[.int .i64 0] T) 3)).alloc (.cells #[.slice (some ⟨w1.heap.size + 1, 0, none⟩) T T] 26)).alloc (.cells #[.func (.func 66) #[] #[.pointer (some ⟨ss, 0, none⟩), .pointer (some ⟨W.heap.size, 0, none⟩), .pointer (some ⟨w1.heap.size + 1 + 1, 0, none⟩), .pointer (some ⟨w1.heap.size, 0, none⟩), .pointer (some ⟨w1.heap.size + 1 + 1 + 1, 0, none⟩)]] 66)) w1.heap.size #[.slice CA T cc] 78 := ((c2.alloc _).alloc _).alloc _
  have k4 : Blk ((((w1.alloc (.cells #[.slice CA T cc] 78)).alloc (.cells (madeCells #[.int .i64 0] T) 3)).alloc (.cells #[.slice (some ⟨w1.heap.size + 1, 0, none⟩) T T] 26)).alloc (.cells #[.func (.func 66) #[] #[.pointer (some ⟨ss, 0, none⟩), .pointer (some ⟨W.heap.size, 0, none⟩), .pointer (some ⟨w1.heap.size + 1 + 1, 0, none⟩), .pointer (some ⟨w1.heap.size, 0, none⟩), .pointer (some ⟨w1.heap.size + 1 + 1 + 1, 0, none⟩)]] 66)) (w1.heap.size + 1 + 1) #[.slice (some ⟨w1.heap.size + 1, 0, none⟩) T T] 26 := (newAt' ((w1.alloc (.cells #[.slice CA T cc] 78)).alloc (.cells (madeCells #[.int .i64 0] T) 3)) _ _ (by simp)).alloc _
  have k5 : Blk ((((w1.alloc (.cells #[.slice CA T cc] 78)).alloc (.cells (madeCells #[.int .i64 0] T) 3)).alloc (.cells #[.slice (some ⟨w1.heap.size + 1, 0, none⟩) T T] 26)).alloc (.cells #[.func (.func 66) #[] #[.pointer (some ⟨ss, 0, none⟩), .pointer (some ⟨W.heap.size, 0, none⟩), .pointer (some ⟨w1.heap.size + 1 + 1, 0, none⟩), .pointer (some ⟨w1.heap.size, 0, none⟩), .pointer (some ⟨w1.heap.size + 1 + 1 + 1, 0, none⟩)]] 66)) (w1.heap.size + 1 + 1 + 1) #[.func (.func 66) #[] #[.pointer (some ⟨ss, 0, none⟩), .pointer (some ⟨W.heap.size, 0, none⟩), .pointer (some ⟨w1.heap.size + 1 + 1, 0, none⟩), .pointer (some ⟨w1.heap.size, 0, none⟩), .pointer (some ⟨w1.heap.size + 1 + 1 + 1, 0, none⟩)]] 66 := newAt' (((w1.alloc (.cells #[.slice CA T cc] 78)).alloc (.cells (madeCells #[.int .i64 0] T) 3)).alloc (.cells #[.slice (some ⟨w1.heap.size + 1, 0, none⟩) T T] 26)) _ _ (by simp)
  have ky : Blk ((((w1.alloc (.cells #[.slice CA T cc] 78)).alloc (.cells (madeCells #[.int .i64 0] T) 3)).alloc (.cells #[.slice (some ⟨w1.heap.size + 1, 0, none⟩) T T] 26)).alloc (.cells #[.func (.func 66) #[] #[.pointer (some ⟨ss, 0, none⟩), .pointer (some ⟨W.heap.size, 0, none⟩), .pointer (some ⟨w1.heap.size + 1 + 1, 0, none⟩), .pointer (some ⟨w1.heap.size, 0, none⟩), .pointer (some ⟨w1.heap.size + 1 + 1 + 1, 0, none⟩)]] 66)) W.heap.size #[.func (.yield l) #[] #[]] 81 := (((Blk.new W #[.func (.yield l) #[] #[]] 81).below hB1 (by simp)).below b5 (by omega))
  have ks5 : Blk ((((w1.alloc (.cells #[.slice CA T cc] 78)).alloc (.cells (madeCells #[.int .i64 0] T) 3)).alloc (.cells #[.slice (some ⟨w1.heap.size + 1, 0, none⟩) T T] 26)).alloc (.cells #[.func (.func 66) #[] #[.pointer (some ⟨ss, 0, none⟩), .pointer (some ⟨W.heap.size, 0, none⟩), .pointer (some ⟨w1.heap.size + 1 + 1, 0, none⟩), .pointer (some ⟨w1.heap.size, 0, none⟩), .pointer (some ⟨w1.heap.size + 1 + 1 + 1, 0, none⟩)]] 66)) ss #[.slice SA T sc] 43 := (ks.below hw1 hssw).below b5 (by have := hw1.size; omega)
  have hs5 : ((((w1.alloc (.cells #[.slice CA T cc] 78)).alloc (.cells (madeCells #[.int .i64 0] T) 3)).alloc (.cells #[.slice (some ⟨w1.heap.size + 1, 0, none⟩) T T] 26)).alloc (.cells #[.func (.func 66) #[] #[.pointer (some ⟨ss, 0, none⟩), .pointer (some ⟨W.heap.size, 0, none⟩), .pointer (some ⟨w1.heap.size + 1 + 1, 0, none⟩), .pointer (some ⟨w1.heap.size, 0, none⟩), .pointer (some ⟨w1.heap.size + 1 + 1 + 1, 0, none⟩)]] 66)).heap.size = w1.heap.size + 1 + 1 + 1 + 1 := by simp
  have k5c := k5.cell
  have hw5 : Below w.heap.size w ((((w1.alloc (.cells #[.slice CA T cc] 78)).alloc (.cells (madeCells #[.int .i64 0] T) 3)).alloc (.cells #[.slice (some ⟨w1.heap.size + 1, 0, none⟩) T T] 26)).alloc (.cells #[.func (.func 66) #[] #[.pointer (some ⟨ss, 0, none⟩), .pointer (some ⟨W.heap.size, 0, none⟩), .pointer (some ⟨w1.heap.size + 1 + 1, 0, none⟩), .pointer (some ⟨w1.heap.size, 0, none⟩), .pointer (some ⟨w1.heap.size + 1 + 1 + 1, 0, none⟩)]] 66)) := hw1.trans (b5.mono hw1.size)
  have hcr5 : FlatP 1 cutC ((((w1.alloc (.cells #[.slice CA T cc] 78)).alloc (.cells (madeCells #[.int .i64 0] T) 3)).alloc (.cells #[.slice (some ⟨w1.heap.size + 1, 0, none⟩) T T] 26)).alloc (.cells #[.func (.func 66) #[] #[.pointer (some ⟨ss, 0, none⟩), .pointer (some ⟨W.heap.size, 0, none⟩), .pointer (some ⟨w1.heap.size + 1 + 1, 0, none⟩), .pointer (some ⟨w1.heap.size, 0, none⟩), .pointer (some ⟨w1.heap.size + 1 + 1 + 1, 0, none⟩)]] 66)) (fun b => b ≠ w1.heap.size + 1 ∧ (R b ∨ W.heap.size ≤ b)) CA Cs := ((hCrow.imp (Q := fun b => W.heap.size ≤ b ∧ b < w1.heap.size) (fun b hb hp => ⟨by simp at hp; omega, hb⟩)).move (Fr.below b5)).imp (fun b _ hp => ⟨by omega, .inr hp.1⟩)
  have hce5 : ∀ q ∈ Cs, FlatP 1 intC ((((w1.alloc (.cells #[.slice CA T cc] 78)).alloc (.cells (madeCells #[.int .i64 0] T) 3)).alloc (.cells #[.slice (some ⟨w1.heap.size + 1, 0, none⟩) T T] 26)).alloc (.cells #[.func (.func 66) #[] #[.pointer (some ⟨ss, 0, none⟩), .pointer (some ⟨W.heap.size, 0, none⟩), .pointer (some ⟨w1.heap.size + 1 + 1, 0, none⟩), .pointer (some ⟨w1.heap.size, 0, none⟩), .pointer (some ⟨w1.heap.size + 1 + 1 + 1, 0, none⟩)]] 66)) (fun b => b ≠ w1.heap.size + 1 ∧ (R b ∨ W.heap.size ≤ b)) q.A q.l := fun q hq => (((hCeach q hq).imp (Q := fun b => W.heap.size ≤ b ∧ b < w1.heap.size) (fun b hb hp => ⟨by simp at hp; omega, hb⟩)).move (Fr.below b5)).imp (fun b _ hp => ⟨by omega, .inr hp.1⟩)
  have hsp5 : FlatP 2 spnC ((((w1.alloc (.cells #[.slice CA T cc] 78)).alloc (.cells (madeCells #[.int .i64 0] T) 3)).alloc (.cells #[.slice (some ⟨w1.heap.size + 1, 0, none⟩) T T] 26)).alloc (.cells #[.func (.func 66) #[] #[.pointer (some ⟨ss, 0, none⟩), .pointer (some ⟨W.heap.size, 0, none⟩), .pointer (some ⟨w1.heap.size + 1 + 1, 0, none⟩), .pointer (some ⟨w1.heap.size, 0, none⟩), .pointer (some ⟨w1.heap.size + 1 + 1 + 1, 0, none⟩)]] 66)) (fun b => b ≠ w1.heap.size + 1 ∧ (R b ∨ W.heap.size ≤ b)) SA sp := ((hS.imp (Q := fun b => R b ∧ b < w.heap.size) (fun b hb hp => ⟨hp, hb⟩)).move (Fr.below hw5)).imp (fun b _ hp => ⟨by have := hw1.size; omega, .inl hp.1⟩)
  have hj5 : J [] ((((w1.alloc (.cells #[.slice CA T cc] 78)).alloc (.cells (madeCells #[.int .i64 0] T) 3)).alloc (.cells #[.slice (some ⟨w1.heap.size + 1, 0, none⟩) T T] 26)).alloc (.cells #[.func (.func 66) #[] #[.pointer (some ⟨ss, 0, none⟩), .pointer (some ⟨W.heap.size, 0, none⟩), .pointer (some ⟨w1.heap.size + 1 + 1, 0, none⟩), .pointer (some ⟨w1.heap.size, 0, none⟩), .pointer (some ⟨w1.heap.size + 1 + 1 + 1, 0, none⟩)]] 66)) := hJ _ _ _ h0 ((((Below.refl W.heap.size W).alloc (Nat.le_refl _) _).trans (hB1.mono (by simp))).trans (b5.mono (by omega)))
  clear hCrow hCeach r4 hX3 c2 b2 b3 b4 hmk ksc kh khc khf
  generalize ((((w1.alloc (.cells #[.slice CA T cc] 78)).alloc (.cells (madeCells #[.int .i64 0] T) 3)).alloc (.cells #[.slice (some ⟨w1.heap.size + 1, 0, none⟩) T T] 26)).alloc (.cells #[.func (.func 66) #[] #[.pointer (some ⟨ss, 0, none⟩), .pointer (some ⟨W.heap.size, 0, none⟩), .pointer (some ⟨w1.heap.size + 1 + 1, 0, none⟩), .pointer (some ⟨w1.heap.size, 0, none⟩), .pointer (some ⟨w1.heap.size + 1 + 1 + 1, 0, none⟩)]] 66)) = W5 at *
  have hE5 : ChE W5 (fun b => b ≠ w1.heap.size + 1 ∧ (R b ∨ W.heap.size ≤ b)) l ss W.heap.size (w1.heap.size + 1 + 1) w1.heap.size (w1.heap.size + 1 + 1 + 1) (w1.heap.size + 1) T SA sc sp CA cc Cs :=
    ⟨ks5, ⟨by have := hw1.size; omega, .inl hss⟩, hsp5, ky, ⟨by omega, .inr (Nat.le_refl _)⟩, k4, ⟨by omega, .inr (by omega)⟩, k2, ⟨by omega, .inr (by omega)⟩, hcr5, hce5, k5, ⟨by omega, .inr (by omega)⟩⟩
  have HCH := Lib.hid (choose_all l W.heap.size ss W.heap.size (w1.heap.size + 1 + 1) w1.heap.size (w1.heap.size + 1 + 1 + 1) (w1.heap.size + 1) T R SA sc sp CA cc Cs J Jx hsp hCl (by omega) (fun b hb => by have := hR b hb; have := hW.size; omega) hT hCb hJ hJx hY' T 0 (by omega) [] (List.replicate T 0) W5 hE5 hX5 hj5 (by omega))
  have hrest := restL_cuts (sp := sp) hCq
  have hmap : (subV (w1.heap.size + 1) sp Cs T 0 []).map Vc.v = listsS T sp cs := by
    unfold subV listsS
    rw [hrest, List.map_map]
    simp [Function.comp_def]
  clear hE5 hX5 hj5 hrest hcr5 hce5 hsp5 ks5 ky k2 k4 k5
  unfold ChOk at HCH
  simp only [List.take_zero, List.nil_append, Int.ofNat_zero] at HCH
  go_wp2_with (go_at_call 66; (with_reducible refine (HCH.out).mono ?_); rintro e W6 (⟨rfl, hJ6, _, _⟩ | ⟨rfl, ⟨M, q, hq, _, hx6⟩, _⟩))
  · go_end0
    exact ⟨⟨_, rfl⟩, .inl ⟨_, hmap, hJ6⟩⟩
  · go_end0
    refine ⟨⟨_, rfl⟩, .inr ⟨M, q, ?_, hx6⟩⟩
    rw [← hmap]
    obtain ⟨t, ht⟩ := hq
    exact ⟨t.map Vc.v, by rw [← List.map_append, ht]⟩
end Go.Proofs.Ytijhbcmmoagdmaa

namespace Go.Proofs.Ytijhbcmmoagdmaa
open Go.RowKit Go.Shelf

theorem operIn_round {l n : Nat} {F : Fence} (hF : F.round = none) {P : Program} {o : Oper} {a : Act} {w : World} {K K' : Act → World → Prop} {Q : Exit → Act → World → Prop} (hd : ∀ c, o.op ≠ .defer c)
    (hk : ∀ a w, K a w → K' a w) (h : o.wpIn F n P a w K Q) : o.wpIn (F.inRound l) n P a w K' Q := by
  have h' := Oper.wpIn_mono hk h
  unfold Oper.wpIn at *
  rw [hF, Oper.semAt_none] at h'
  rw [Fence.inRound_round, Oper.semAt_some l _ _ hd]
  exact h'

def noDefer (ops : Array Oper) : Bool := ops.all fun o => match o.op with | .defer _ => false | _ => true

theorem noDefer_spec {ops : Array Oper} (h : noDefer ops = true) {i : Nat} {o : Oper} (hi : ops[i]? = some o) (c : Call) : o.op ≠ .defer c := by
  intro hc
  unfold noDefer at h
  rw [Array.all_eq_true] at h
  obtain ⟨hl, he⟩ := Array.getElem?_eq_some_iff.1 hi
  have := h i hl
  rw [he, hc] at this
  cases this

theorem anyIn_round {l n : Nat} {F : Fence} (hF : F.round = none) {P : Program} {md : Region.Mode} {ops : Array Oper} {Q : Exit → Act → World → Prop} (hd : noDefer ops = true) :
    ∀ (fuel : Nat) (listed : Array Bool) (a : Act) (w : World), wpAnyIn F n P md ops Q fuel listed a w → wpAnyIn (F.inRound l) n P md ops Q fuel listed a w := by
  intro fuel
  induction fuel with
  | zero => intro listed a w h; exact h
  | succ fuel ih =>
    intro listed a w h
    refine ⟨h.1, fun i hi => ?_⟩
    have h2 := h.2 i hi
    unfold wpOpIn at *
    split
    · rename_i ho; simp only [ho] at h2; exact ih _ _ _ h2
    · rename_i o ho
      simp only [ho] at h2
      split
      · rename_i hw; simp only [hw, if_true] at h2; exact operIn_round hF (noDefer_spec hd ho) (fun a w => ih _ a w) h2
      · rename_i hw; simp only [hw] at h2; exact ⟨h2.1, ih _ _ _ h2.2⟩

theorem wpIn_region_round {l n : Nat} {F : Fence} (hF : F.round = none) {P : Program} {ops : Array Oper} {Q : Exit → Act → World → Prop} {id : Nat} {a : Act} {w : World} (hm : P.follows .mixedOrders = true) (hd : noDefer ops = true)
    (h : wpAnyIn F n P .any ops Q ops.size (Array.replicate ops.size false) a w.drew) : (Code.region id ops true).wpIn (F.inRound l) n P Q a w :=
  wpIn_region_any hm (anyIn_round hF hd _ _ _ _ h)
end Go.Proofs.Ytijhbcmmoagdmaa
