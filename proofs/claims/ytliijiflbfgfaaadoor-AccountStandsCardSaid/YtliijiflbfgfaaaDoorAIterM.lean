/- maps.Values over a map from numbers to reports, and what slices.Collect makes of it. -/
import Derived.Test.YtliijiflbfgfaaaDoorAIter
import Derived.Test.YtliijiflbfgfaaaDoorAMap
import Derived.Sort.MapsRangeIn

namespace Go.Proofs.YtliijiflbfgfaaaDoor
open Go.RowKit Go.Shelf Go.Maps

attribute [local go_sem] Oper.semAt_some

set_option maxRecDepth 100000 in
set_option maxHeartbeats 2000000 in
theorem valuesM1_in (F : Fence) (n : Nat) (h7 : F.fn 51) (hro : F.round = none) (hn : 1 ≤ n) (l Bm b nn : Nat) (K : List Rep) (hK : (K.map Rep.id).Nodup) (D0 : DataW Value) (hat : ∀ kl z, D0.atKey kl z = gotAt (repG K kl) z) (J Jx : List Rep → World → Prop)
    (hY : ∀ pre x W, J pre W → pre.length < K.length → YieldAt F (n - 1) Tryd.prog l (encR8 x) W fun e W' =>
      (e = .returned (.bool true) ∧ J (pre ++ [x]) W' ∧ KeepsWalks W W') ∨ (e = .returned (.bool false) ∧ Jx (pre ++ [x]) W'))
    (W : World) (hJ : AbidesFrom W.heap.size J) (hm : W.cell? ⟨Bm, 0, none⟩ = some (.map (some b))) (hown : W.ownsMap Tryd.prog 3 rawElem b nn D0) (h0 : J [] W) :
    CallsIn F n Tryd.prog 51 #[.func (.yield l) #[] #[], .pointer (some ⟨Bm, 0, none⟩)] W fun e W' => (∃ v, e = .returned v) ∧
      ((∃ ys, ys.Perm K ∧ J ys W') ∨ (∃ pre, True ∧ Jx pre W')) := by
  refine callsIn_of_wp Tryd.func51 rfl h7 ?_ hro
  simp only [Tryd.ntmps51, List.size_toArray, List.length_cons, List.length_nil, Nat.reduceAdd, Nat.reduceSub, Array.replicate_succ, Array.replicate_zero, List.push_toArray, List.append_toArray, List.nil_append, List.cons_append]
  gi_wp2_with (gi_at_range; refine wpListIn_range_own _ rfl _ 36 rfl 3 47 (int_keyed Tryd.underlying3) Tryd.underlying36 _ b nn _ rfl hown ?_; intro w0 hrg0 hg0 hs0)
  go_frame
  have hHat := Lib.hid hat
  clear hat
  gi_loopw [4] (fun _ wr => ∃ (left : Lit → Bool) (cnt : Nat) (ps : List Rep), wr.ranges Tryd.prog 3 rawElem b W.heap.size nn D0 left cnt ∧ CollR K left ps ∧ J ps wr)
    (fun _ wr => wr.rangeLeft b W.heap.size)
  case atStart => exact ⟨_, _, [], hrg0, CollR.start hK hHat.out, hJ [] W w0 none h0 hg0 (fun r e => by cases e)⟩
  case round =>
    obtain ⟨left, cnt, ps, hrg, hC, hJs⟩ := hrel
    gi_wp2_with (gi_at_next; refine wpListIn_next_ranges _ rfl _ rfl 3 (int_keyed Tryd.underlying3) rawElem (Value.int .i64) (fun u : Value => u) intKeyShape rawShape b W.heap.size nn _ _ _ rfl hrg ?_ ?_)
    · intro hc0 hl0
      gi_wp2
      go_end0
      exact ⟨⟨_, rfl⟩, .inl ⟨ps, hC.perm hK hl0, hJs⟩⟩
    · intro k1 v kl ya yb w2 cnt2 hkey hlk hv hat1 hrg2 hlt hg2 hs2 hen
      obtain ⟨p, ep, rfl, hwp⟩ := Maps.keyOf_int_inv Tryd.underlying3 hkey
      injection ep with _ ep
      subst ep
      have hv' := Option.some.inj hv
      injection hv' with hv1 hv2
      subst hv1
      clear hv hv2
      obtain ⟨r, hr, rfl, rfl⟩ := repG_mem (got_some hHat.out hat1)
      have hJ2 : J ps w2 := hJ ps wr w2 (some W.heap.size) hJs hg2 (fun r e => by cases e; exact ⟨Nat.le_refl _, hrg.iter_walk⟩)
      have hJ3 : J ps (w2.alloc (.cells #[.int .i64 r.id, .int .i64 r.src, .int .i64 r.acc, .int .i64 r.made, .int .i64 r.about, .int .u8 r.kind, .int .i64 r.cents, .int .i64 r.of_] 47)) := hJ ps w2 _ none hJ2 (World.grownBy_alloc _ _ none) (fun r e => by cases e)
      have hC2 := hC.step hr hlk hK
      have hlen := hC2.len
      rw [List.length_append] at hlen
      obtain ⟨fn, tmps, assign, body, hy, hR⟩ := hY ps r _ hJ3 (by simp at hlen; omega)
      dsimp only [encR8] at hy
      have hrg3 := hrg2.alloc (.cells #[.int .i64 r.id, .int .i64 r.src, .int .i64 r.acc, .int .i64 r.made, .int .i64 r.about, .int .u8 r.kind, .int .i64 r.cents, .int .i64 r.of_] 47)
      clear hs2
      gi_wp2
      refine hR.mono ?_
      rintro e W3 (⟨rfl, hJ4, hk3⟩ | ⟨rfl, hJx3⟩)
      · gi_wp2
        have hrg4 := hrg3.of_walks hk3
        go_roundw
        case rel => exact ⟨_, cnt2, ps ++ [r], hrg4, hC2, hJ4⟩
        case measure => rw [hrg4.left_eq, hrg.left_eq]; exact hlt
      · gi_wp2
        refine bodyPost_ret (results_none rfl _ _ _) rfl ?_
        exact ⟨⟨_, rfl⟩, .inr ⟨ps ++ [r], trivial, hJx3⟩⟩

theorem valuesM_stops (F : Fence) (n : Nat) (h7 : F.fn 51) (hro : F.round = none) (hn : 1 ≤ n) (Bs b nn : Nat) (L : List Rep) (hL : (L.map Rep.id).Nodup) (w : World) (hBs : Bs < w.heap.size)
    (hc : w.cell? ⟨Bs, 0, none⟩ = some (.map (some b))) (hM : MapFn w Tryd.prog 3 b nn (repG L)) :
    SeqStopsK F n Tryd.prog 51 #[.pointer (some ⟨Bs, 0, none⟩)] encR8 KeepsWalks (fun ys => ys.Perm L) (fun _ => True) L.length w := fun l J Jx W hW hJ _ hY h0 => by
  obtain ⟨D, hD, hat⟩ := hM.below hW hM.lt
  exact valuesM1_in F n h7 hro hn l Bs b nn L hL D hat J Jx hY W hJ ((hW.cell (p := ⟨Bs, 0, none⟩) hBs).trans hc) hD h0

set_option maxHeartbeats 1000000 in
theorem valuesM_any (b : Nat) (w : World) :
    Calls Tryd.prog 45 #[.map (some b)] w fun e w' => e = .returned (.func (.func 51) #[] #[.pointer (some ⟨w.heap.size, 0, none⟩)]) ∧ w' = w.alloc (.cells #[.map (some b)] 36) := by
  go_enter Tryd.func45, Tryd.ntmps45
  go_wp2
  go_ret
  exact ⟨rfl, rfl⟩

set_option maxRecDepth 100000 in
set_option maxHeartbeats 4000000 in
/-- slices.AppendSeq(nil, maps.Values(m)). -/
theorem appendSeqM_in (n : Nat) (hn : 3 ≤ n) (Bs b nn : Nat) (L : List Rep) (hz : L.length ≤ 1000) (hL : (L.map Rep.id).Nodup) (w : World) (hBs : Bs < w.heap.size) (hc : w.cell? ⟨Bs, 0, none⟩ = some (.map (some b))) (hM : MapFn w Tryd.prog 3 b nn (repG L)) :
    CallsIn Fence.wide n Tryd.prog 29 #[.slice none 0 0, .func (.func 51) #[] #[.pointer (some ⟨Bs, 0, none⟩)]] w fun e w' =>
      ∃ v, ∃ ys : List Rep, e = .returned v ∧ ys.Perm L ∧ w'.ownsRow w.heap.size 47 8 v ys.length (ys.flatMap repCells) ∧ Below w.heap.size w w' := by
  have h1 : 1 ≤ n := by omega
  obtain ⟨i0, hi, hz0, hz1, hz2⟩ := info_parts repInfo
  refine callsIn_of_wp_marks Tryd.func29 rfl trivial ?_ rfl
  simp only [Tryd.ntmps29, List.size_toArray, List.length_cons, List.length_nil, Nat.reduceAdd, Nat.reduceSub, Array.replicate_succ, Array.replicate_zero, List.push_toArray, List.append_toArray, List.nil_append, List.cons_append]
  gi_wp2
  have bO := Boxed.new w 22 (.slice none 0 0)
  have hB0 : Below w.heap.size w (w.alloc (.cells #[.slice none 0 0] 22)) := (Below.refl _ w).alloc (Nat.le_refl _) _
  have hsz : (w.alloc (.cells #[.slice none 0 0] 22)).heap.size = w.heap.size + 1 := by simp
  obtain ⟨W0, hW0⟩ : ∃ W0, w.alloc (.cells #[.slice none 0 0] 22) = W0 := ⟨_, rfl⟩
  rw [hW0] at bO hB0 hsz ⊢
  clear hW0
  have hcW := (hB0.cell (p := ⟨Bs, 0, none⟩) (by show Bs < _; omega)).trans hc
  refine wpIn_rangeFunc_ownH rfl h1 (gf := 51) (lb := #[.pointer (some ⟨Bs, 0, none⟩)]) rfl trivial (enters_of Tryd.func51 (by kernel_rfl) rfl)
    (valuesM_stops Fence.wide (n - 1) trivial rfl (by omega) Bs b nn L hL W0 (by omega) hcW (hM.below hB0 hM.lt)) walksK_t walksK_b (Below.refl _ _) (fun _ => rfl)
    (fun pre W => (∃ v, Boxed W w.heap.size 22 v ∧ W.ownsRow w.heap.size 47 8 v pre.length (pre.flatMap repCells) ∧ True) ∧ Below w.heap.size w W)
    (fun _ _ _ => False)
    (OwnFrom.and (Own.from (holdsRow_own w.heap.size w.heap.size 22 47 8 (fun pre : List Rep => pre.length) (fun pre : List Rep => pre.flatMap repCells) (fun _ _ => True)) _) (ownFrom_below (Nat.le_refl _) (by omega)))
    (fun _ _ _ _ _ hs _ _ => hs)
    ⟨⟨_, bO, World.ownsRow_nil _ _ _ _, trivial⟩, hB0⟩
    (fun x a' W => ∃ Bx, w.heap.size < Bx ∧ Blk W Bx #[.int .i64 x.id, .int .i64 x.src, .int .i64 x.acc, .int .i64 x.made, .int .i64 x.about, .int .u8 x.kind, .int .i64 x.cents, .int .i64 x.of_] 47 ∧ a' = { tmps := #[.slice none 0 0, .func (.func 51) #[] #[.pointer (some ⟨Bs, 0, none⟩)], .pointer (some ⟨w.heap.size, 0, none⟩), undef, .slice none 0 0, .pointer (some ⟨Bx, 0, none⟩), .func (.func 51) #[] #[.pointer (some ⟨Bs, 0, none⟩)], .agg #[.int .i64 x.id, .int .i64 x.src, .int .i64 x.acc, .int .i64 x.made, .int .i64 x.about, .int .u8 x.kind, .int .i64 x.cents, .int .i64 x.of_], undef, undef, undef, undef, undef], defers := [] })
    (fun x a' _ X Y row hs hg hr => by obtain ⟨Bx, h1, h2, h3⟩ := hs; exact ⟨Bx, h1, blk_own Bx 47 (fun (_ : Unit) => #[.int .i64 x.id, .int .i64 x.src, .int .i64 x.acc, .int .i64 x.made, .int .i64 x.about, .int .u8 x.kind, .int .i64 x.cents, .int .i64 x.of_]) () X Y row h2 hg (fun r e => (hr r e).2), h3⟩)
    ?assign ?body ?done ?stop
  case assign =>
    rintro l pre x W K ⟨⟨v, hv, hrow, _⟩, hB⟩ hK
    gi_wp2
    exact hK _ _ ((KeepsOthers.alloc _ _).from _) (KeepsWalks.alloc _ _) ⟨⟨v, hv.alloc _, hrow.alloc _, trivial⟩, hB.alloc hB.size _⟩ ⟨W.heap.size, hv.lt, Blk.new W _ _, rfl⟩
  case body =>
    rintro l pre x a' W hl ⟨r, hr⟩ ⟨⟨v, hv, hrow, _⟩, hB⟩ ⟨Bx, hBx, bX, rfl⟩ hlt
    have hc := hv.cell
    have cX := bX.cell
    gi_wp2_with (gi_at_builtin; refine wpListIn_append_own _ rfl _ _ 22 rfl w.heap.size 47 i0 _ 8 64 Tryd.underlying22 hi hz0 hz1 hz2 rfl (by decide) _ _ _ rfl (hrow.alloc _) ⟨W.heap.size, 0, none⟩ 1 1 (repCells x) rfl rfl (cells_new8 _ _) (repCells_one _) (by unfold maxLen; omega) (by omega) (by have := hB.size; simp; omega) ?_; intro v' w1 hown' hgrow _; obtain ⟨g', cap', rfl⟩ := ownsRow_succ hown'; obtain ⟨hv1, hv2, hr2, hk2, hb2⟩ := hv.appended (by decide) hrow hB.size (Nat.le_refl _) hown' hgrow; have hc1 := hv1.cell; have hf1 := hv1.frozen)
    exact ⟨hk2.from _, hk2.walks, ⟨⟨_, hv2, by rw [repCells_snoc, List.length_append]; exact hr2, trivial⟩, hB.trans hb2⟩⟩
  case done =>
    rintro D ys W hD hp ⟨⟨v, hv, hrow, _⟩, hB⟩ hK
    have hc := hv.cell
    gi_wp2
    refine ⟨by simp, .inl ⟨_, _, rfl, run_takeDeferred hK, ?_⟩⟩
    exact ⟨_, results_tmp rfl _ _ _, v, ys, rfl, hp, ownsRow_putObj hrow _ hK rfl, hB.trans (belowK_b (w := w) (Nat.le_refl _) W D _ _ (by omega) hK rfl rfl)⟩
  case stop =>
    rintro D c pre W _ _ h _
    exact h.elim

set_option maxHeartbeats 1000000 in
theorem collectM_any (Bs b nn : Nat) (L : List Rep) (hz : L.length ≤ 1000) (hL : (L.map Rep.id).Nodup) (w : World) (hBs : Bs < w.heap.size) (hc : w.cell? ⟨Bs, 0, none⟩ = some (.map (some b))) (hM : MapFn w Tryd.prog 3 b nn (repG L)) :
    Calls Tryd.prog 12 #[.func (.func 51) #[] #[.pointer (some ⟨Bs, 0, none⟩)]] w fun e w' =>
      ∃ v, ∃ ys : List Rep, e = .returned v ∧ ys.Perm L ∧ w'.ownsRow w.heap.size 47 8 v ys.length (ys.flatMap repCells) ∧ Below w.heap.size w w' := by
  have HA := Lib.hid (callsIn_wide.1 (appendSeqM_in 3 (Nat.le_refl _) Bs b nn L hz hL w hBs hc hM))
  clear hc hM
  go_enter Tryd.func12, Tryd.ntmps12
  go_wp2_with (go_at_call 29; with_reducible refine (HA.out).mono ?_; rintro e w' ⟨v, ys, rfl, hp, hown, hb⟩)
  go_ret
  exact ⟨v, ys, rfl, hp, hown, hb⟩


end Go.Proofs.YtliijiflbfgfaaaDoor
