/- Lists of reports: slices.Values, AppendSeq, Collect. -/
import Derived.Test.YtkpaikampmeooaaGreatDoorASort
import Derived.RangeFuncNested
import Derived.RangeFuncBound
import Derived.RangeFuncCalls
import Derived.RangeFuncLeaves
import Derived.RangeFuncBox
import Derived.Shelf.Abstract
import Derived.Shelf.RegionOpen
import Derived.OwnWalkIn
import Derived.TacticsInMore
import Derived.LoopNIn
import Derived.LoopIn
import Derived.Laws.EntriesVeiled
import Derived.Test.YtkpaikampmeooaaGreatDoorTCardP5
import Derived.Test.YtkpaikampmeooaaGreatDoorTShelf
import Derived.Test.YtkpaikampmeooaaGreatDoorTCardP2
import Derived.Sort.MapsRangeIn
import Derived.Test.YtkpaikampmeooaaGreatDoorTCardP3
import Derived.Lib.SliceRun

namespace Go.Proofs.YtkpaikampmeooaaGreatDoor
open Go.RowKit Go.Shelf

attribute [local go_sem] Oper.semAt_some

abbrev encR8 (x : Rep) : Array Value := #[.agg #[.int .i64 x.id, .int .i64 x.src, .int .i64 x.acc, .int .i64 x.made, .int .i64 x.about, .int .u8 x.kind, .int .i64 x.cents, .int .i64 x.of_]]

set_option maxRecDepth 100000 in
set_option maxHeartbeats 2000000 in
theorem valuesR1_in (F : Fence) (n : Nat) (h7 : F.fn 103) (hro : F.round = none) (hn : 1 ≤ n) (l Bs n₀ : Nat) (A : Option Addr) (cap : Nat) (zs : List Rep) (hz : zs.length ≤ maxLen) (J Jx : List Rep → World → Prop)
    (W : World) (hn₀ : n₀ ≤ W.heap.size) (hJ : AbidesFrom W.heap.size J)
    (hY : ∀ pre x W, J pre W → pre.length < zs.length → YieldAt F (n - 1) Tryz.prog l (encR8 x) W fun e W' =>
      (e = .returned (.bool true) ∧ J (pre ++ [x]) W' ∧ Below n₀ W W') ∨ (e = .returned (.bool false) ∧ Jx (pre ++ [x]) W'))
    (hc : W.cell? ⟨Bs, 0, none⟩ = some (.slice A zs.length cap)) (hS : Reps W n₀ A zs) (h0 : J [] W) :
    CallsIn F n Tryz.prog 103 #[.func (.yield l) #[] #[], .pointer (some ⟨Bs, 0, none⟩)] W fun e W' => (∃ v, e = .returned v) ∧
      ((∃ ys, ys = zs ∧ J ys W') ∨ (∃ pre, pre <+: zs ∧ Jx pre W')) := by
  unfold maxLen at hz
  refine callsIn_of_wp Tryz.func103 rfl h7 ?_ hro
  simp only [Tryz.ntmps103, List.size_toArray, List.length_cons, List.length_nil, Nat.reduceAdd, Nat.reduceSub, Array.replicate_succ, Array.replicate_zero, List.push_toArray, List.append_toArray, List.nil_append, List.cons_append]
  gi_wp2
  gi_loopw [7] (fun i wr => ∃ k : Nat, k ≤ zs.length ∧ i = .int .i64 k ∧ J (zs.take k) wr ∧ Below n₀ W wr ∧ W.heap.size ≤ wr.heap.size)
    (fun i _ => zs.length - (intOf i).toNat)
  case atStart => exact ⟨0, Nat.zero_le _, rfl, h0, Below.refl _ _, Nat.le_refl _⟩
  case round =>
    obtain ⟨k, hk, rfl, hJs, hnx, hsz⟩ := hrel
    by_cases hlt : k < zs.length
    · have hil : (k : Int) < (zs.length : Int) := by omega
      obtain ⟨b, off, rfl, hb, C⟩ := (hS.below hnx).eight hlt
      have hsnoc : zs.take (k + 1) = zs.take k ++ [zs[k]] := List.take_succ_eq_append_getElem hlt
      generalize zs[k] = x at C hsnoc
      obtain ⟨c0, c1, c2, c3, c4, c5, c6, c7⟩ := C
      have hJ1 : J (zs.take k) (wr.alloc (.cells #[.int .i64 x.id, .int .i64 x.src, .int .i64 x.acc, .int .i64 x.made, .int .i64 x.about, .int .u8 x.kind, .int .i64 x.cents, .int .i64 x.of_] 56)) := hJ _ _ _ none hJs (World.grownBy_alloc _ _ none) (fun r e => by cases e)
      obtain ⟨fn, tmps, assign, body, hy, hR⟩ := hY _ x _ hJ1 (by rw [List.length_take]; omega)
      dsimp only [encR8] at hy
      have hb1 : Below n₀ W (wr.alloc (.cells #[.int .i64 x.id, .int .i64 x.src, .int .i64 x.acc, .int .i64 x.made, .int .i64 x.about, .int .u8 x.kind, .int .i64 x.cents, .int .i64 x.of_] 56)) := hnx.alloc (by omega) _
      gi_wp2
      refine hR.mono ?_
      rintro e W3 (⟨rfl, hJ3, hk3⟩ | ⟨rfl, hJx3⟩)
      · gi_wp2
        go_roundw
        case rel => exact ⟨k + 1, by omega, by go_num, by rw [hsnoc]; exact hJ3, hb1.trans hk3, by have := hk3.size; simp at this; omega⟩
        case measure => simp [intOf]; omega
      · gi_wp2
        refine bodyPost_ret (results_none rfl _ _ _) rfl ?_
        exact ⟨⟨_, rfl⟩, .inr ⟨_, hsnoc ▸ List.take_prefix _ _, hJx3⟩⟩
    · have hil : ¬ (k : Int) < (zs.length : Int) := by omega
      have hall : zs.take k = zs := List.take_of_length_le (by omega)
      gi_wp2
      go_end0
      rw [hall] at hJs
      exact ⟨⟨_, rfl⟩, .inl hJs⟩

set_option maxHeartbeats 1000000 in
theorem valuesR_in (F : Fence) (n : Nat) (h5 : F.fn 81) (hro : F.round = none) (a : Option Addr) (len cap : Nat) (w : World) :
    CallsIn F n Tryz.prog 81 #[.slice a len cap] w fun e w' => e = .returned (.func (.func 103) #[] #[.pointer (some ⟨w.heap.size, 0, none⟩)]) ∧ w' = w.alloc (.cells #[.slice a len cap] 27) := by
  refine callsIn_of_wp Tryz.func81 rfl h5 ?_ hro
  simp only [Tryz.ntmps81, List.size_toArray, List.length_cons, List.length_nil, Nat.reduceAdd, Nat.reduceSub, Array.replicate_succ, Array.replicate_zero, List.push_toArray, List.append_toArray, List.nil_append, List.cons_append]
  gi_wp2
  go_ret
  exact ⟨rfl, rfl⟩

theorem valuesR_stops (F : Fence) (n : Nat) (h7 : F.fn 103) (hro : F.round = none) (hn : 1 ≤ n) (Bs n₀ : Nat) (A : Option Addr) (cap : Nat) (zs : List Rep) (hz : zs.length ≤ maxLen) (w : World) (hBs : Bs < n₀) (hn₀ : n₀ ≤ w.heap.size)
    (hc : w.cell? ⟨Bs, 0, none⟩ = some (.slice A zs.length cap)) (hS : Reps w n₀ A zs) :
    SeqStopsK F n Tryz.prog 103 #[.pointer (some ⟨Bs, 0, none⟩)] encR8 (Below n₀) (fun ys => ys = zs) (fun pre => pre <+: zs) zs.length w := fun l J Jx W hW hJ _ hY h0 =>
  valuesR1_in F n h7 hro hn l Bs n₀ A cap zs hz J Jx W (Nat.le_trans hn₀ hW.size) hJ hY ((hW.cell (p := ⟨Bs, 0, none⟩) (by show Bs < _; omega)).trans hc) (hS.below (hW.mono hn₀)) h0

theorem blk_own {β : Type} (B : Nat) (t : TypeId) (cs : β → Array Value) : Own (fun (s : β) W => Blk W B (cs s) t) := by
  rintro s X Y row hv hg hrow
  refine (hg.block B (Array.getElem?_eq_some_iff.1 hv).1 (fun e' => ?_)).trans hv
  obtain ⟨o, ho, hc⟩ := hrow B e'.symm
  rw [show X.heap[B]? = _ from hv] at ho; cases ho; cases hc

set_option maxRecDepth 100000 in
set_option maxHeartbeats 4000000 in
/-- slices.AppendSeq(nil, slices.Values(zs)). -/
theorem appendSeqR_in (n : Nat) (hn : 3 ≤ n) (Bs n₀ : Nat) (A : Option Addr) (cap : Nat) (zs : List Rep) (hz : zs.length ≤ 1000) (w : World) (hBs : Bs < n₀) (hn₀ : n₀ ≤ w.heap.size) (hc : w.cell? ⟨Bs, 0, none⟩ = some (.slice A zs.length cap)) (hS : Reps w n₀ A zs) :
    CallsIn Fence.wide n Tryz.prog 79 #[.slice none 0 0, .func (.func 103) #[] #[.pointer (some ⟨Bs, 0, none⟩)]] w fun e w' =>
      ∃ v, e = .returned v ∧ w'.ownsRow w.heap.size 56 8 v zs.length (zs.flatMap repCells) ∧ Below w.heap.size w w' := by
  have h1 : 1 ≤ n := by omega
  obtain ⟨i0, hi, hz0, hz1, hz2⟩ := info_parts repInfo
  refine callsIn_of_wp_marks Tryz.func79 rfl trivial ?_ rfl
  simp only [Tryz.ntmps79, List.size_toArray, List.length_cons, List.length_nil, Nat.reduceAdd, Nat.reduceSub, Array.replicate_succ, Array.replicate_zero, List.push_toArray, List.append_toArray, List.nil_append, List.cons_append]
  gi_wp2
  have bO := Boxed.new w 27 (.slice none 0 0)
  have hB0 : Below w.heap.size w (w.alloc (.cells #[.slice none 0 0] 27)) := (Below.refl _ w).alloc (Nat.le_refl _) _
  have hsz : (w.alloc (.cells #[.slice none 0 0] 27)).heap.size = w.heap.size + 1 := by simp
  obtain ⟨W0, hW0⟩ : ∃ W0, w.alloc (.cells #[.slice none 0 0] 27) = W0 := ⟨_, rfl⟩
  rw [hW0] at bO hB0 hsz ⊢
  clear hW0
  have hcW := (hB0.cell (p := ⟨Bs, 0, none⟩) (by show Bs < _; omega)).trans hc
  refine wpIn_rangeFunc_ownH rfl h1 (gf := 103) (lb := #[.pointer (some ⟨Bs, 0, none⟩)]) rfl trivial (enters_of Tryz.func103 (by kernel_rfl) rfl)
    (valuesR_stops Fence.wide (n - 1) trivial rfl (by omega) Bs w.heap.size A cap zs (by unfold maxLen; omega) W0 (by omega) (by omega) hcW ((hS.more hn₀).below hB0)) belowK_t (belowK_b (by omega)) (Below.refl _ _) (fun _ => rfl)
    (fun pre W => (∃ v, Boxed W w.heap.size 27 v ∧ W.ownsRow w.heap.size 56 8 v pre.length (pre.flatMap repCells) ∧ True) ∧ Below w.heap.size w W)
    (fun _ _ _ => False)
    (OwnFrom.and (Own.from (holdsRow_own w.heap.size w.heap.size 27 56 8 (fun pre : List Rep => pre.length) (fun pre : List Rep => pre.flatMap repCells) (fun _ _ => True)) _) (ownFrom_below (Nat.le_refl _) (by omega)))
    (fun _ _ _ _ _ hs _ _ => hs)
    ⟨⟨_, bO, World.ownsRow_nil _ _ _ _, trivial⟩, hB0⟩
    (fun x a' W => ∃ Bx, w.heap.size < Bx ∧ Blk W Bx #[.int .i64 x.id, .int .i64 x.src, .int .i64 x.acc, .int .i64 x.made, .int .i64 x.about, .int .u8 x.kind, .int .i64 x.cents, .int .i64 x.of_] 56 ∧ a' = { tmps := #[.slice none 0 0, .func (.func 103) #[] #[.pointer (some ⟨Bs, 0, none⟩)], .pointer (some ⟨w.heap.size, 0, none⟩), undef, .slice none 0 0, .pointer (some ⟨Bx, 0, none⟩), .func (.func 103) #[] #[.pointer (some ⟨Bs, 0, none⟩)], .agg #[.int .i64 x.id, .int .i64 x.src, .int .i64 x.acc, .int .i64 x.made, .int .i64 x.about, .int .u8 x.kind, .int .i64 x.cents, .int .i64 x.of_], undef, undef, undef, undef, undef], defers := [] })
    (fun x a' _ X Y row hs hg hr => by obtain ⟨Bx, h1, h2, h3⟩ := hs; exact ⟨Bx, h1, blk_own Bx 56 (fun (_ : Unit) => #[.int .i64 x.id, .int .i64 x.src, .int .i64 x.acc, .int .i64 x.made, .int .i64 x.about, .int .u8 x.kind, .int .i64 x.cents, .int .i64 x.of_]) () X Y row h2 hg (fun r e => (hr r e).2), h3⟩)
    ?assign ?body ?done ?stop
  case assign =>
    rintro l pre x W K ⟨⟨v, hv, hrow, _⟩, hB⟩ hK
    gi_wp2
    exact hK _ _ ((KeepsOthers.alloc _ _).from _) ((Below.refl _ W).alloc hB.size _) ⟨⟨v, hv.alloc _, hrow.alloc _, trivial⟩, hB.alloc hB.size _⟩ ⟨W.heap.size, hv.lt, Blk.new W _ _, rfl⟩
  case body =>
    rintro l pre x a' W hl ⟨r, hr⟩ ⟨⟨v, hv, hrow, _⟩, hB⟩ ⟨Bx, hBx, bX, rfl⟩ hlt
    have hc := hv.cell
    have cX := bX.cell
    gi_wp2_with (gi_at_builtin; refine wpListIn_append_own _ rfl _ _ 27 rfl w.heap.size 56 i0 _ 8 64 Tryz.underlying27 hi hz0 hz1 hz2 rfl (by decide) _ _ _ rfl (hrow.alloc _) ⟨W.heap.size, 0, none⟩ 1 1 (repCells x) rfl rfl (cells_new8 _ _) (repCells_one _) (by unfold maxLen; omega) (by omega) (by have := hB.size; simp; omega) ?_; intro v' w1 hown' hgrow _; obtain ⟨g', cap', rfl⟩ := ownsRow_succ hown'; obtain ⟨hv1, hv2, hr2, hk2, hb2⟩ := hv.appended (by decide) hrow hB.size (Nat.le_refl _) hown' hgrow; have hc1 := hv1.cell; have hf1 := hv1.frozen)
    exact ⟨hk2.from _, hb2, ⟨⟨_, hv2, by rw [repCells_snoc, List.length_append]; exact hr2, trivial⟩, hB.trans hb2⟩⟩
  case done =>
    rintro D ys W hD rfl ⟨⟨v, hv, hrow, _⟩, hB⟩ hK
    have hc := hv.cell
    gi_wp2
    refine ⟨by simp, .inl ⟨_, _, rfl, run_takeDeferred hK, ?_⟩⟩
    exact ⟨_, results_tmp rfl _ _ _, v, rfl, ownsRow_putObj hrow _ hK rfl, hB.trans (belowK_b (w := w) (Nat.le_refl _) W D _ _ (by omega) hK rfl rfl)⟩
  case stop =>
    rintro D c pre W _ _ h _
    exact h.elim

set_option maxHeartbeats 1000000 in
theorem collectR_any (Bs n₀ : Nat) (A : Option Addr) (cap : Nat) (zs : List Rep) (hz : zs.length ≤ 1000) (w : World) (hBs : Bs < n₀) (hn₀ : n₀ ≤ w.heap.size) (hc : w.cell? ⟨Bs, 0, none⟩ = some (.slice A zs.length cap)) (hS : Reps w n₀ A zs) :
    Calls Tryz.prog 55 #[.func (.func 103) #[] #[.pointer (some ⟨Bs, 0, none⟩)]] w fun e w' =>
      ∃ v, e = .returned v ∧ w'.ownsRow w.heap.size 56 8 v zs.length (zs.flatMap repCells) ∧ Below w.heap.size w w' := by
  have HA := Lib.hid (callsIn_wide.1 (appendSeqR_in 3 (Nat.le_refl _) Bs n₀ A cap zs hz w hBs hn₀ hc hS))
  clear hc hS
  go_enter Tryz.func55, Tryz.ntmps55
  go_wp2_with (go_at_call 79; with_reducible refine (HA.out).mono ?_; rintro e w' ⟨v, rfl, hown, hb⟩)
  go_ret
  exact ⟨v, rfl, hown, hb⟩

end Go.Proofs.YtkpaikampmeooaaGreatDoor

namespace Go.Proofs.YtkpaikampmeooaaGreatDoor
open Go.RowKit Go.Maps Go.Shelf

attribute [local go_sem] Oper.semAt_some

theorem shown_stops (n : Nat) (hn : 1 ≤ n) (Bs B0 mB : Nat) (X0 X1 : Value) (m k p q : Nat) (F : Option Addr) (cf : Nat) (laws : List LawT) (homes : List HomeT) (facts : List Rep) (day : Int) (w0 w : World) (hM0 : BurM w0 m k p q F cf laws homes facts) (hLa : LastOk laws homes facts) (hf : facts.length ≤ 60) (hfw : ∀ r ∈ facts, FactWf r)
    (h1 : w0.heap.size ≤ mB) (h2 : w0.heap.size ≤ B0) (h3 : Bs < B0) (h4 : Bs ≠ mB) (hW0 : Below w0.heap.size w0 w) (hWB : B0 ≤ w.heap.size) (hbox : Blk w Bs (burCells X0 X1 day F facts.length cf m p q) 51) :
    SeqStopsK Fence.wide n Tryz.prog 44 #[.pointer (some ⟨Bs, 0, none⟩)] encS (But B0 mB) (fun ys : List ShW => ys.map Subtype.val = shownS laws homes facts day facts) (fun _ => True) 60 w := fun l J Jx W hW hJ _ hY h0 =>
  shown1_in n hn l Bs B0 mB X0 X1 m k p q F cf laws homes facts day w0 hM0 hLa hf hfw h1 h2 h3 h4 J Jx W (hW0.trans (hW.mono hW0.size)) (Nat.le_trans hWB hW.size) hJ hY (hbox.below hW hbox.lt) h0

set_option maxHeartbeats 1000000 in
theorem shown_in (n : Nat) (X0 X1 : Value) (m p q : Nat) (F : Option Addr) (nf cf : Nat) (day : Int) (w : World) :
    CallsIn Fence.wide n Tryz.prog 24 #[.agg (burCells X0 X1 day F nf cf m p q)] w fun e w' => e = .returned (.func (.func 44) #[] #[.pointer (some ⟨w.heap.size, 0, none⟩)]) ∧ w' = w.alloc (.cells (burCells X0 X1 day F nf cf m p q) 51) := by
  refine callsIn_of_wp Tryz.func24 rfl trivial ?_ rfl
  simp only [Tryz.ntmps24, List.size_toArray, List.length_cons, List.length_nil, Nat.reduceAdd, Nat.reduceSub, Array.replicate_succ, Array.replicate_zero, List.push_toArray, List.append_toArray, List.nil_append, List.cons_append]
  gi_wp2
  go_ret
  exact ⟨rfl, rfl⟩

theorem sorts_wide (m : Nat) : AnyZI.SortsIn Tryz.prog Tryz.sortedInt_ren Fence.wide m :=
  ⟨fun blk off cap ss W hH hblk hsz => callsIn_wide.2 (AnyM.slices_Sort_int Tryz.sortInt blk off cap ss W hH hblk hsz),
   fun p cap W => callsIn_wide.2 (AnyM.slices_Sort_int_none Tryz.sortInt p cap W)⟩

set_option maxRecDepth 100000 in
set_option maxHeartbeats 8000000 in
theorem goneT_in (n : Nat) (hn : 10 ≤ n) {l : List LawT} {s : List StillT} {homes : List HomeT} {rl : List Rep} (A S H R : Option Addr) (c cs ch cr : Nat) (day : Int) (w : World) (hz : err4 l s homes rl day = 0)
    (hO : ∀ W, Below w.heap.size w W → OpenOk l s homes rl A S H R c cs ch cr day W) (hL : LastOk l homes (standR rl day)) :
    CallsIn Fence.wide n Tryz.prog 8 #[.agg #[.slice A l.length c, .slice S s.length cs], .slice H homes.length ch, .slice R rl.length cr, .int .i64 day] w fun e w' => ∃ A' c', e = .returned (.tuple #[.slice A' (goneR l s homes rl day).length c', .int .i64 (err4 l s homes rl day)]) ∧ Flat 1 intC w' w'.heap.size A' (goneR l s homes rl day) ∧ Below w.heap.size w w' := by
  have HV : Hid (goneR l s homes rl day = goneL l homes (standR rl day) day) := Lib.hid (by unfold goneR; rw [if_pos hz])
  have HF := Lib.hid (standR_ok rl day)
  rw [hz]
  unfold OpenOk at hO
  have b1 := (Below.refl w.heap.size w).alloc (Nat.le_refl _) (.cells #[.slice A l.length c, .slice S s.length cs] 25)
  have HO := Lib.hid ((callsIn_wide (n := n - 1)).2 (hO _ b1))
  have k1c := (Blk.new w #[.slice A l.length c, .slice S s.length cs] 25).cell
  clear hO hz
  generalize standR rl day = facts at *
  have hf60 := HF.out.len
  have hfO : Fence.wide.fn 15 := trivial
  have hfS : Fence.wide.fn 24 := trivial
  have hfK : Fence.wide.fn 26 := trivial
  have hfT : Fence.wide.fn 25 := trivial
  have hmm := @run_makeMap Tryz.prog
  have h1n : 1 ≤ n := by omega
  refine callsIn_of_wp_marks Tryz.func8 rfl trivial ?_ rfl
  simp only [Tryz.ntmps8, List.size_toArray, List.length_cons, List.length_nil, Nat.reduceAdd, Nat.reduceSub, Array.replicate_succ, Array.replicate_zero, List.push_toArray, List.append_toArray, List.nil_append, List.cons_append]
  gi_wp2_with (gi_at_call 15; refine (HO.out).mono ?_; rintro e w2 ⟨m, k, p, q, F, cf, rfl, hM, h2⟩)
  have b2 := b1.trans (h2.mono b1.size)
  have b2s := b2.size
  have HM := Lib.hid hM
  have HB2 := Lib.hid b2
  have kb0 := ((Blk.new w2 (burCells (.slice A l.length c) (.slice S s.length cs) day F facts.length cf m p q) 51).alloc (.map #[] 0)).alloc (.cells #[.map (some (w2.heap.size + 1))] 66)
  have kx0 := Blk.new ((w2.alloc (.cells (burCells (.slice A l.length c) (.slice S s.length cs) day F facts.length cf m p q) 51)).alloc (.map #[] 0)) #[.map (some (w2.heap.size + 1))] 66
  have km0 := (MapFn.made (w2.alloc (.cells (burCells (.slice A l.length c) (.slice S s.length cs) day F facts.length cf m p q) 51)) Tryz.prog 3).alloc (.cells #[.map (some (w2.heap.size + 1))] 66)
  have be0 : Below w2.heap.size w2 _ := (((Below.refl w2.heap.size w2).alloc (Nat.le_refl _) (.cells (burCells (.slice A l.length c) (.slice S s.length cs) day F facts.length cf m p q) 51)).alloc (by simp) (.map #[] 0)).alloc (by simp; omega) (.cells #[.map (some (w2.heap.size + 1))] 66)
  simp only [World.size_alloc] at kx0 km0
  have HI0 : Hid (Blk _ w2.heap.size (burCells (.slice A l.length c) (.slice S s.length cs) day F facts.length cf m p q) 51 ∧ Blk _ (w2.heap.size + 1 + 1) #[.map (some (w2.heap.size + 1))] 66 ∧ MapFn _ Tryz.prog 3 (w2.heap.size + 1) 0 (numG (aboutI (facts.take 0) day)) ∧ Below w2.heap.size w2 _) := Lib.hid ⟨kb0, kx0, (by rw [show aboutI (facts.take 0) day = [] from rfl, numG_nil]; exact km0), be0⟩
  clear kb0 kx0 km0 be0 hM b2 h2 HO k1c b1
  gi_loopw [31] (fun ii wr => ∃ i : Nat, i ≤ facts.length ∧ ii = .int .i64 i ∧ Hid (Blk wr w2.heap.size (burCells (.slice A l.length c) (.slice S s.length cs) day F facts.length cf m p q) 51 ∧ Blk wr (w2.heap.size + 1 + 1) #[.map (some (w2.heap.size + 1))] 66 ∧ MapFn wr Tryz.prog 3 (w2.heap.size + 1) i (numG (aboutI (facts.take i) day)) ∧ Below w2.heap.size w2 wr)) (fun ii _ => facts.length - (vInt ii).toNat)
  case atStart => exact ⟨0, Nat.zero_le _, rfl, HI0⟩
  case round =>
    obtain ⟨i, hi, rfl, hR⟩ := hrel
    clear HI0
    obtain ⟨hkb, hkx, hkm, hB⟩ := hR.out
    have kbc := hkb.cell
    have kxc := hkx.cell
    have gx := hkx.lt
    have gb := hkb.lt
    by_cases hlt : i < facts.length
    · have hil : (i : Int) < (facts.length : Int) := by omega
      obtain ⟨b, off, rfl, hb, C⟩ := (HM.out.below hB).reps.eight hlt
      have hT : aboutI (facts.take (i + 1)) day = aboutI (facts.take i) day ++ (if facts[i].about ≤ day then [facts[i].id] else []) := by rw [List.take_succ_eq_append_getElem hlt, aboutI_snoc]
      have hwf := acc_wf (HF.out.wf facts[i] (List.getElem_mem hlt)).id
      generalize facts[i] = r at *
      generalize aboutI (facts.take i) day = L at *
      obtain ⟨c0, c1, c2, c3, c4, c5, c6, c7⟩ := C
      have kb1 := hkb.alloc (.cells #[.int .i64 r.id, .int .i64 r.src, .int .i64 r.acc, .int .i64 r.made, .int .i64 r.about, .int .u8 r.kind, .int .i64 r.cents, .int .i64 r.of_] 56)
      have kx1 := hkx.alloc (.cells #[.int .i64 r.id, .int .i64 r.src, .int .i64 r.acc, .int .i64 r.made, .int .i64 r.about, .int .u8 r.kind, .int .i64 r.cents, .int .i64 r.of_] 56)
      have hB1 := hB.alloc hB.size (.cells #[.int .i64 r.id, .int .i64 r.src, .int .i64 r.acc, .int .i64 r.made, .int .i64 r.about, .int .u8 r.kind, .int .i64 r.cents, .int .i64 r.of_] 56)
      have kb1c := kb1.cell
      have kx1c := kx1.cell
      have krc := (Blk.new wr #[.int .i64 r.id, .int .i64 r.src, .int .i64 r.acc, .int .i64 r.made, .int .i64 r.about, .int .u8 r.kind, .int .i64 r.cents, .int .i64 r.of_] 56).cell
      by_cases ha : r.about ≤ day
      · rw [if_pos ha] at hT
        obtain ⟨w3, hrun3, hput, hg3⟩ := (hkm.alloc (.cells #[.int .i64 r.id, .int .i64 r.src, .int .i64 r.acc, .int .i64 r.made, .int .i64 r.about, .int .u8 r.kind, .int .i64 r.cents, .int .i64 r.of_] 56)).put (int_keyed Tryz.underlying3) Tryz.underlying66 (by unfold maxLen; omega) (keyOf_int_mk Tryz.underlying3 hwf) (val := .bool true)
        rw [numG_put, ← hT] at hput
        have HJ : Hid (Blk w3 w2.heap.size (burCells (.slice A l.length c) (.slice S s.length cs) day (some ⟨b, off, none⟩) facts.length cf m p q) 51 ∧ Blk w3 (w2.heap.size + 1 + 1) #[.map (some (w2.heap.size + 1))] 66 ∧ MapFn w3 Tryz.prog 3 (w2.heap.size + 1) (i + 1) (numG (aboutI (facts.take (i + 1)) day)) ∧ Below w2.heap.size w2 w3) := Lib.hid ⟨kb1.grown hg3 (by simp), kx1.grown hg3 (by simp), hput, hB1.grown hg3 hB1.size (fun k e => by have := Option.some.inj e; omega)⟩
        clear hput hkm hR hkb hkx hB hB1 hg3 hT kb1 kx1
        gi_wp2
        go_roundw
        case rel => exact ⟨i + 1, by omega, by go_num, HJ⟩
        case measure => simp [vInt]; omega
      · rw [if_neg ha, List.append_nil] at hT
        have HJ : Hid (Blk _ w2.heap.size (burCells (.slice A l.length c) (.slice S s.length cs) day (some ⟨b, off, none⟩) facts.length cf m p q) 51 ∧ Blk _ (w2.heap.size + 1 + 1) #[.map (some (w2.heap.size + 1))] 66 ∧ MapFn _ Tryz.prog 3 (w2.heap.size + 1) (i + 1) (numG (aboutI (facts.take (i + 1)) day)) ∧ Below w2.heap.size w2 _) := Lib.hid ⟨kb1, kx1, (by rw [hT]; exact (hkm.alloc (.cells #[.int .i64 r.id, .int .i64 r.src, .int .i64 r.acc, .int .i64 r.made, .int .i64 r.about, .int .u8 r.kind, .int .i64 r.cents, .int .i64 r.of_] 56)).mono (by omega)), hB1⟩
        clear hkm hR hkb hkx hB hB1 hT kb1 kx1
        gi_wp2
        go_roundw
        case rel => exact ⟨i + 1, by omega, by go_num, HJ⟩
        case measure => simp [vInt]; omega
    · have hil : ¬ (i : Int) < (facts.length : Int) := by omega
      obtain rfl : i = facts.length := by omega
      rw [List.take_length] at hkm
      have hkm2 := hkm
      clear hR
      gi_wp2_with (gi_at_call 24; refine (shown_in _ _ _ m p q F facts.length cf day _).mono ?_; rintro e w4 ⟨rfl, rfl⟩)
      have kq0 := Blk.new wr (burCells (.slice A l.length c) (.slice S s.length cs) day F facts.length cf m p q) 51
      have kx1 := hkx.alloc (.cells (burCells (.slice A l.length c) (.slice S s.length cs) day F facts.length cf m p q) 51)
      have hB1 := hB.alloc hB.size (.cells (burCells (.slice A l.length c) (.slice S s.length cs) day F facts.length cf m p q) 51)
      have km1 := (hkm2.alloc (.cells (burCells (.slice A l.length c) (.slice S s.length cs) day F facts.length cf m p q) 51)).mono hf60
      have hgz : (wr.alloc (.cells (burCells (.slice A l.length c) (.slice S s.length cs) day F facts.length cf m p q) 51)).heap.size = wr.heap.size + 1 := by simp
      obtain ⟨W0, hW0⟩ : ∃ W0, wr.alloc (.cells (burCells (.slice A l.length c) (.slice S s.length cs) day F facts.length cf m p q) 51) = W0 := ⟨_, rfl⟩
      rw [hW0] at kq0 kx1 hB1 km1 hgz ⊢
      clear hW0 hkx hkb hkm hkm2 hB kbc kxc
      refine wpIn_rangeFunc_ownH rfl h1n (gf := 44) (lb := #[.pointer (some ⟨wr.heap.size, 0, none⟩)]) rfl trivial (enters_of Tryz.func44 (by kernel_rfl) rfl)
        (shown_stops (n - 1) (by omega) wr.heap.size W0.heap.size (w2.heap.size + 1) (.slice A l.length c) (.slice S s.length cs) m k p q F cf l homes facts day w2 W0 HM.out hL hf60 HF.out.wf (by omega) hB1.size (by omega) (by omega) hB1 (Nat.le_refl _) kq0)
        But.trans (fun W l o o' hl h h1 h2 => But.of_below (belowK_b (Nat.le_refl _) W l o o' hl h h1 h2) (Nat.le_refl _)) (Below.refl _ _) (fun _ => rfl)
        (fun pre W => Blk W (w2.heap.size + 1 + 1) #[.map (some (w2.heap.size + 1))] 66 ∧ MapFn W Tryz.prog 3 (w2.heap.size + 1) 60 (numG (leftI (aboutI facts day) (pre.map Subtype.val))) ∧ But W0.heap.size (w2.heap.size + 1) W0 W)
        (fun _ _ _ => False)
        (by
          rintro pre X Y row ⟨g1, g2, g3⟩ hg hr
          have hne : row ≠ some (w2.heap.size + 1) := fun e => by have := (hr _ e).1; omega
          exact ⟨blk_own (w2.heap.size + 1 + 1) 66 (fun (_ : Unit) => #[.map (some (w2.heap.size + 1))]) () X Y row g1 hg (fun r e => (hr r e).2), g2.grown hg hne, g3.trans ⟨hg.os, hg.tape, hg.output, hg.size, fun j hj hjm => hg.block j (Nat.lt_of_lt_of_le hj g3.size) (fun e => by have := (hr j e.symm).1; omega)⟩⟩)
        (fun _ _ _ _ _ hs _ _ => hs)
        ⟨kx1, by rw [List.map_nil, leftI_nil]; exact km1, But.refl _ _ _⟩
        (fun x a' W => ∃ Bx, W0.heap.size ≤ Bx ∧ Blk W Bx #[.int .i64 x.val.1.id, .int .i64 x.val.1.src, .int .i64 x.val.1.acc, .int .i64 x.val.1.made, .int .i64 x.val.1.about, .int .u8 x.val.1.kind, .int .i64 x.val.1.cents, .int .i64 x.val.1.of_] 56 ∧ a' = { tmps := #[Value.agg #[.slice A l.length c, .slice S s.length cs], .slice H homes.length ch, .slice R rl.length cr, .int .i64 day, .pointer (some ⟨w.heap.size, 0, none⟩), undef, undef, undef, .slice none 0 0, .int .i64 0, .pointer (some ⟨w2.heap.size, 0, none⟩), .int .i64 0, .pointer (some ⟨w2.heap.size + 1 + 1, 0, none⟩), undef, u14, .pointer (some ⟨Bx, 0, none⟩), .tuple #[.agg (burCells (.slice A l.length c) (.slice S s.length cs) day F facts.length cf m p q), .int .i64 0], .agg #[.slice A l.length c, .slice S s.length cs], .slice H homes.length ch, .slice R rl.length cr, .int .i64 day, .tuple #[.agg (burCells (.slice A l.length c) (.slice S s.length cs) day F facts.length cf m p q), .int .i64 0], .agg (burCells (.slice A l.length c) (.slice S s.length cs) day F facts.length cf m p q), .int .i64 0, .int .i64 0, .bool false, undef, .map (some (w2.heap.size + 1)), .pointer (some ⟨w2.heap.size, 3, none⟩), .slice F facts.length cf, .int .i64 facts.length, .int .i64 facts.length, .bool false, u33, u34, u35, u36, u37, u38, u39, u40, u41, u42, u43, .agg (burCells (.slice A l.length c) (.slice S s.length cs) day F facts.length cf m p q), .func (.func 44) #[] #[.pointer (some ⟨wr.heap.size, 0, none⟩)], .agg #[.int .i64 x.val.1.id, .int .i64 x.val.1.src, .int .i64 x.val.1.acc, .int .i64 x.val.1.made, .int .i64 x.val.1.about, .int .u8 x.val.1.kind, .int .i64 x.val.1.cents, .int .i64 x.val.1.of_], .int .i64 x.val.2, undef, undef, undef, undef, undef, undef], defers := [] })
        (fun x a' _ X Y row hs hg hr => by obtain ⟨Bx, h1, h2, h3⟩ := hs; exact ⟨Bx, h1, blk_own Bx 56 (fun (_ : Unit) => #[.int .i64 x.val.1.id, .int .i64 x.val.1.src, .int .i64 x.val.1.acc, .int .i64 x.val.1.made, .int .i64 x.val.1.about, .int .u8 x.val.1.kind, .int .i64 x.val.1.cents, .int .i64 x.val.1.of_]) () X Y row h2 hg (fun r e => (hr r e).2), h3⟩)
        ?assign ?body ?done ?stop
      case assign =>
        rintro ll pre x W K ⟨g1, g2, g3⟩ hK
        have kxx := Blk.new W #[.int .i64 x.val.1.id, .int .i64 x.val.1.src, .int .i64 x.val.1.acc, .int .i64 x.val.1.made, .int .i64 x.val.1.about, .int .u8 x.val.1.kind, .int .i64 x.val.1.cents, .int .i64 x.val.1.of_] 56
        gi_wp2
        exact hK _ _ ((KeepsOthers.alloc _ _).from _) (But.of_below ((Below.refl _ W).alloc (Nat.le_refl _) _) g3.size) ⟨g1.alloc _, g2.alloc _, g3.trans (But.of_below ((Below.refl _ W).alloc (Nat.le_refl _) _) g3.size)⟩ ⟨W.heap.size, g3.size, kxx, rfl⟩
      case body =>
        rintro ll pre x a' W hl ⟨r, hr⟩ ⟨g1, g2, g3⟩ ⟨Bx, hBx, bX, rfl⟩ hlt
        have g1c := g1.cell
        have bXc := bX.cell
        have gz := g3.size
        have hkey := keyOf_int_mk (P := Tryz.prog) Tryz.underlying3 (acc_wf x.property.id)
        gi_wp2_with (gi_at_delete; refine wpListIn_drop_fn rfl _ _ _ 3 rfl _ (int_keyed Tryz.underlying3) Tryz.underlying66 _ _ _ rfl g2 _ _ rfl hkey ?_; intro w1 hm1 hg1)
        rw [numG_del, leftI_snoc] at hm1
        refine ⟨?_, ?_, ?_⟩
        · exact KeepsFrom.of_grownBy hg1 (fun j e => by cases e; omega)
        · exact But.of_grown hg1 gz
        · exact ⟨g1.grown hg1 (by simp), by rw [List.map_append]; exact hm1, g3.trans (But.of_grown hg1 gz)⟩
      case done =>
        rintro D ys W hD hys ⟨g1, g2, g3⟩ hK
        have g1c := g1.cell
        have gz := g3.size
        rw [hys, left_gone day HF.out.nodup] at g2
        obtain ⟨DD, hown, hat⟩ := g2
        have hDlt : D < W.heap.size := (Array.getElem?_eq_some_iff.1 hK).1
        have hsz : Maps.size DD ≤ 60 := hown.size_le
        have hbl := hown.lt
        have cK := Lib.hid (AnyZI.keys_in Tryz.keysInt Fence.wide (n - 1) trivial rfl (some (w2.heap.size + 1)) W)
        have hseq : SeqGives Fence.wide (n - 1 - 1 - 1 - 1) Tryz.prog 47 #[.pointer (some ⟨W.heap.size, 0, none⟩)] encZ (fun ss => ss.Perm (Go.intKeys DD)) (Maps.size DD) (W.alloc (.cells #[.map (some (w2.heap.size + 1))] 66)) :=
          AnyZI.keys_gives (ρ := Tryz.keysInt_ren) { Tryz.keysInt with } Fence.wide _ trivial rfl (by omega) W.heap.size (w2.heap.size + 1) 60 DD _ (by simp) (by simp) (by
            obtain ⟨es, clock, hb, Ft, hs, hD'⟩ := hown
            exact ⟨es, clock, (Below.heap_alloc _ _ _ hbl).trans hb, Ft, hs, hD'⟩)
        have cS := AnyZI.sorted_in Tryz.sortedInt Fence.wide (n - 1) trivial trivial trivial trivial rfl (by omega) (sorts_wide _) (enters_of Tryz.func46 (by kernel_rfl) rfl) 47 #[.pointer (some ⟨W.heap.size, 0, none⟩)] trivial (enters_of Tryz.func47 (by kernel_rfl) rfl) _ _ (by unfold maxLen; omega) (by omega) _ hseq
        change CallsIn _ _ Tryz.prog 25 _ _ _ at cS
        have HS := Lib.hid cS
        have hcK : CallsIn Fence.wide (n - 1) Tryz.prog 26 #[.map (some (w2.heap.size + 1))] W fun e w' => e = .returned (.func (.func 47) #[] #[.pointer (some ⟨W.heap.size, 0, none⟩)]) ∧ w' = W.alloc (.cells #[.map (some (w2.heap.size + 1))] 66) := cK.out
        have HK := Lib.hid hcK
        have HD := Lib.hid hK
        clear cS hcK cK hseq hK
        gi_wp2_with (first
          | (gi_at_call 26; refine (HK.out).mono ?_; rintro e w5 ⟨rfl, rfl⟩)
          | (gi_at_call 25; refine (HS.out).mono ?_; rintro e w6 ⟨v, ss, rfl, hperm, hrow, _, hb6⟩))
        have hb5 : Below W.heap.size W (W.alloc (.cells #[.map (some (w2.heap.size + 1))] 66)) := (Below.refl _ W).alloc (Nat.le_refl _) _
        have hb7 := hb5.trans (hb6.mono hb5.size)
        have hD6 : w6.heap[D]? = some (.deferred (some [])) := (hb7.block D hDlt).trans HD.out
        refine ⟨by simp, .inl ⟨_, _, rfl, run_takeDeferred hD6, ?_⟩⟩
        have hp1 : (ss.mergeSort fun x y => decide (x ≤ y)) = goneL l homes facts day := by
          refine sort_eq ((List.mergeSort_perm ss _).trans ?_) ?_
          · exact keys_perm hown hat ((left_gone (laws := l) (homes := homes) day HF.out.nodup) ▸ left_nodup day HF.out.nodup _) hperm
          · have := List.pairwise_mergeSort (le := fun a b : Int => decide (a ≤ b)) (fun a b c h1 h2 => by simp only [decide_eq_true_eq] at *; omega) (fun a b => by simp only [Bool.or_eq_true, decide_eq_true_eq]; omega) ss
            exact this.imp fun h => by simpa using h
        have hlen : ss.length = (goneL l homes facts day).length := by rw [← hp1, List.length_mergeSort]
        rw [hp1, hlen] at hrow
        have hrow2 : w6.ownsRow (W.alloc (.cells #[.map (some (w2.heap.size + 1))] 66)).heap.size 3 1 v (goneL l homes facts day).length (intCells (goneL l homes facts day)) := hrow
        obtain ⟨A6, c6, rfl⟩ := own_slice hrow2
        have hrow3 := ownsRow_putObj hrow2 (.deferred none) hD6 rfl
        have hfl : Flat 1 intC (w6.putObj D (.deferred none)) (w6.putObj D (.deferred none)).heap.size A6 (goneL l homes facts day) := Flat.of_own (n := 1) (f := intC) (fun _ => rfl) (by decide) (by rw [intC_flat]; exact hrow3)
        have hbW : Below w.heap.size w W := (HB2.out.trans (hB1.mono b2s)).trans (g3.below (Nat.le_trans b2s hB1.size) (by omega))
        have hbF : Below w.heap.size w (w6.putObj D (.deferred none)) := (hbW.trans (hb7.mono hbW.size)).trans (belowK_b (w := w) (Nat.le_refl _) w6 D _ _ (by have := hB1.size; omega) hD6 rfl rfl)
        refine ⟨.tuple #[.slice A6 (goneL l homes facts day).length c6, .int .i64 0], ?_, ?_⟩
        · simp [results, Tryz.results8, go_sem]
        · exact ⟨A6, c6, by rw [HV.out], by rw [HV.out]; exact hfl, hbF⟩
      case stop =>
        rintro D c pre W _ _ h _
        exact h.elim
end Go.Proofs.YtkpaikampmeooaaGreatDoor

namespace Go.Proofs.YtkpaikampmeooaaGreatDoor
open Go.RowKit Go.Maps

set_option maxRecDepth 100000 in
set_option maxHeartbeats 2000000 in
theorem startsOf_any (A : Option Addr) (n c : Nat) (w : World) :
    Calls Tryz.prog 35 #[.slice A n c] w fun e w' => e = .returned (.agg #[.nilFunc, .func (.func 58) #[] #[], .func (.func 59) #[] #[], .func (.func 60) #[] #[.pointer (some ⟨w.heap.size, 0, none⟩)]]) ∧ (w.heap.size < w'.heap.size ∧ w'.cell? ⟨w.heap.size, 0, none⟩ = some (.slice A n c)) ∧ Below w.heap.size w w' := by
  have k1 := (Blk.new w #[.slice A n c] 27).alloc (.cells #[.nilFunc, .func (.func 58) #[] #[], .func (.func 59) #[] #[], .func (.func 60) #[] #[.pointer (some ⟨w.heap.size, 0, none⟩)]] 49)
  have b1 := ((Below.refl w.heap.size w).alloc (Nat.le_refl _) (.cells #[.slice A n c] 27)).alloc (by simp) (.cells #[.nilFunc, .func (.func 58) #[] #[], .func (.func 59) #[] #[], .func (.func 60) #[] #[.pointer (some ⟨w.heap.size, 0, none⟩)]] 49)
  have k2 := (Blk.new (w.alloc (.cells #[.slice A n c] 27)) #[.nilFunc, .func (.func 58) #[] #[], .func (.func 59) #[] #[], .func (.func 60) #[] #[.pointer (some ⟨w.heap.size, 0, none⟩)]] 49).cell
  simp only [World.size_alloc] at k2
  have H1 := Lib.hid k1
  clear k1
  go_enter Tryz.func35, Tryz.ntmps35
  go_wp2_with fail
  exact bodyPost_ret (v := .agg #[.nilFunc, .func (.func 58) #[] #[], .func (.func 59) #[] #[], .func (.func 60) #[] #[.pointer (some ⟨w.heap.size, 0, none⟩)]]) (by simp [results, Tryz.results35, go_sem, k2]) rfl ⟨rfl, ⟨H1.out.lt, H1.out.cell 0⟩, b1⟩

set_option maxHeartbeats 1000000 in
theorem lastPred_any (r : Rep) (id : Int) (kc : Nat) (W : World) (hk : W.cell? ⟨kc, 0, none⟩ = some (.int .i64 id)) (hkc : kc < W.heap.size) :
    Calls Tryz.prog 17 #[.agg #[.int .i64 r.id, .int .i64 r.src, .int .i64 r.acc, .int .i64 r.made, .int .i64 r.about, .int .u8 r.kind, .int .i64 r.cents, .int .i64 r.of_], .pointer (some ⟨kc, 0, none⟩)] W fun e w' => e = .returned (.bool (r.id == id)) ∧ w' = W.alloc (.cells #[.int .i64 r.id, .int .i64 r.src, .int .i64 r.acc, .int .i64 r.made, .int .i64 r.about, .int .u8 r.kind, .int .i64 r.cents, .int .i64 r.of_] 56) := by
  have hk1 := ((Below.refl W.heap.size W).alloc (Nat.le_refl _) (.cells #[.int .i64 r.id, .int .i64 r.src, .int .i64 r.acc, .int .i64 r.made, .int .i64 r.about, .int .u8 r.kind, .int .i64 r.cents, .int .i64 r.of_] 56)).cell (p := ⟨kc, 0, none⟩) hkc |>.trans hk
  go_enter Tryz.func17, Tryz.ntmps17
  go_wp2
  go_ret
  exact ⟨rfl, rfl⟩

set_option maxRecDepth 100000 in
set_option maxHeartbeats 1000000 in
theorem indexL_any (l : List Rep) (A : Option Addr) (c : Nat) (id : Int) (kc : Nat) (w : World) (h : Reps w w.heap.size A l) (hk : w.cell? ⟨kc, 0, none⟩ = some (.int .i64 id)) (hkc : kc < w.heap.size) (hl : l.length ≤ 1000) :
    Calls Tryz.prog 16 #[.slice A l.length c, .func (.func 17) #[] #[.pointer (some ⟨kc, 0, none⟩)]] w fun e w' => e = .returned (.int .i64 (ixR l id)) ∧ Below w.heap.size w w' := by
  have HP := Lib.hid (fun r W h1 h2 => lastPred_any r id kc W h1 h2)
  go_enter Tryz.func16, Tryz.ntmps16
  go_wp2_with fail
  go_loopw [8] (fun ii wr => ∃ i : Nat, i ≤ l.length ∧ ii = .int .i64 i ∧ Hid ((∀ j, (hj : j < i) → (hl : j < l.length) → l[j].id ≠ id) ∧ Below w.heap.size w wr)) (fun ii _ => l.length - (vInt ii).toNat)
  case atStart => exact ⟨0, Nat.zero_le _, rfl, Lib.hid ⟨fun j hj => by omega, Below.refl _ _⟩⟩
  case round =>
    obtain ⟨i, hi, rfl, hR⟩ := hrel
    by_cases hlt : i < l.length
    · have hil : (i : Int) < (l.length : Int) := by omega
      obtain ⟨hall, hB⟩ := hR.out
      obtain ⟨b, off, rfl, hb, C⟩ := (h.later hB).eight hlt
      obtain ⟨c0, c1, c2, c3, c4, c5, c6, c7⟩ := C
      have HC := Lib.hid (HP.out l[i] wr ((hB.cell (p := ⟨kc, 0, none⟩) hkc).trans hk) (Nat.lt_of_lt_of_le hkc hB.size))
      by_cases he : l[i].id = id
      · have e1 : (l[i].id == id) = true := by simp [he]
        have hv : Hid (ixR l id = (i : Int)) := Lib.hid (ixR_found hlt he (fun j hj => hall j hj (by omega)))
        rw [e1] at HC
        clear he hall hR
        go_wp2_with (go_at_call 17; (with_reducible refine (HC.out).mono ?_); rintro e w2 ⟨rfl, rfl⟩)
        go_ret
        exact ⟨by rw [hv.out]; rfl, hB.alloc hB.size _⟩
      · have e1 : (l[i].id == id) = false := by simpa using he
        have HR : Hid (∀ j, (hj : j < i + 1) → (hl : j < l.length) → l[j].id ≠ id) := Lib.hid (fun j hj hl => by
          by_cases hji : j = i
          · subst hji; exact he
          · exact hall j (by omega) hl)
        rw [e1] at HC
        clear he hall hR
        go_wp2_with (go_at_call 17; (with_reducible refine (HC.out).mono ?_); rintro e w2 ⟨rfl, rfl⟩)
        go_roundw
        case rel => exact ⟨i + 1, by omega, by go_num, Lib.hid ⟨HR.out, hB.alloc hB.size _⟩⟩
        case measure => simp [vInt]; omega
    · have hil : ¬ (i : Int) < (l.length : Int) := by omega
      obtain ⟨hall, hB⟩ := hR.out
      have hno : ∀ r ∈ l, r.id ≠ id := fun r hr => by
        obtain ⟨j, hj, rfl⟩ := List.getElem_of_mem hr
        exact hall j (by omega) hj
      have hv : Hid (ixR l id = -1) := Lib.hid (ixR_none hno)
      clear hno hall hR
      go_wp2_with fail
      go_ret
      exact ⟨by rw [hv.out]; rfl, hB⟩
end Go.Proofs.YtkpaikampmeooaaGreatDoor

namespace Go.Proofs.YtkpaikampmeooaaGreatDoor
open Go.RowKit Go.Shelf Go.Maps

attribute [local go_sem] Oper.semAt_some

set_option maxRecDepth 100000 in
set_option maxHeartbeats 2000000 in
theorem valuesM1_in (F : Fence) (n : Nat) (h7 : F.fn 121) (hro : F.round = none) (hn : 1 ≤ n) (l Bm b nn : Nat) (K : List Rep) (hK : (K.map Rep.id).Nodup) (D0 : DataW Value) (hat : ∀ kl z, D0.atKey kl z = gotAt (repG K kl) z) (J Jx : List Rep → World → Prop)
    (hY : ∀ pre x W, J pre W → pre.length < K.length → YieldAt F (n - 1) Tryz.prog l (encR8 x) W fun e W' =>
      (e = .returned (.bool true) ∧ J (pre ++ [x]) W' ∧ KeepsWalks W W') ∨ (e = .returned (.bool false) ∧ Jx (pre ++ [x]) W'))
    (W : World) (hJ : AbidesFrom W.heap.size J) (hm : W.cell? ⟨Bm, 0, none⟩ = some (.map (some b))) (hown : W.ownsMap Tryz.prog 3 rawElem b nn D0) (h0 : J [] W) :
    CallsIn F n Tryz.prog 121 #[.func (.yield l) #[] #[], .pointer (some ⟨Bm, 0, none⟩)] W fun e W' => (∃ v, e = .returned v) ∧
      ((∃ ys, ys.Perm K ∧ J ys W') ∨ (∃ pre, True ∧ Jx pre W')) := by
  refine callsIn_of_wp Tryz.func121 rfl h7 ?_ hro
  simp only [Tryz.ntmps121, List.size_toArray, List.length_cons, List.length_nil, Nat.reduceAdd, Nat.reduceSub, Array.replicate_succ, Array.replicate_zero, List.push_toArray, List.append_toArray, List.nil_append, List.cons_append]
  gi_wp2_with (gi_at_range; refine wpListIn_range_own _ rfl _ 104 rfl 3 56 (int_keyed Tryz.underlying3) Tryz.underlying104 _ b nn _ rfl hown ?_; intro w0 hrg0 hg0 hs0)
  go_frame
  have hHat := Lib.hid hat
  clear hat
  gi_loopw [4] (fun _ wr => ∃ (left : Lit → Bool) (cnt : Nat) (ps : List Rep), wr.ranges Tryz.prog 3 rawElem b W.heap.size nn D0 left cnt ∧ CollR K left ps ∧ J ps wr)
    (fun _ wr => wr.rangeLeft b W.heap.size)
  case atStart => exact ⟨_, _, [], hrg0, CollR.start hK hHat.out, hJ [] W w0 none h0 hg0 (fun r e => by cases e)⟩
  case round =>
    obtain ⟨left, cnt, ps, hrg, hC, hJs⟩ := hrel
    gi_wp2_with (gi_at_next; refine wpListIn_next_ranges _ rfl _ rfl 3 (int_keyed Tryz.underlying3) rawElem (Value.int .i64) (fun u : Value => u) intKeyShape rawShape b W.heap.size nn _ _ _ rfl hrg ?_ ?_)
    · intro hc0 hl0
      gi_wp2
      go_end0
      exact ⟨⟨_, rfl⟩, .inl ⟨ps, hC.perm hK hl0, hJs⟩⟩
    · intro k1 v kl ya yb w2 cnt2 hkey hlk hv hat1 hrg2 hlt hg2 hs2 hen
      obtain ⟨p, ep, rfl, hwp⟩ := Maps.keyOf_int_inv Tryz.underlying3 hkey
      injection ep with _ ep
      subst ep
      have hv' := Option.some.inj hv
      injection hv' with hv1 hv2
      subst hv1
      clear hv hv2
      obtain ⟨r, hr, rfl, rfl⟩ := repG_mem (got_some hHat.out hat1)
      have hJ2 : J ps w2 := hJ ps wr w2 (some W.heap.size) hJs hg2 (fun r e => by cases e; exact ⟨Nat.le_refl _, hrg.iter_walk⟩)
      have hJ3 : J ps (w2.alloc (.cells #[.int .i64 r.id, .int .i64 r.src, .int .i64 r.acc, .int .i64 r.made, .int .i64 r.about, .int .u8 r.kind, .int .i64 r.cents, .int .i64 r.of_] 56)) := hJ ps w2 _ none hJ2 (World.grownBy_alloc _ _ none) (fun r e => by cases e)
      have hC2 := hC.step hr hlk hK
      have hlen := hC2.len
      rw [List.length_append] at hlen
      obtain ⟨fn, tmps, assign, body, hy, hR⟩ := hY ps r _ hJ3 (by simp at hlen; omega)
      dsimp only [encR8] at hy
      have hrg3 := hrg2.alloc (.cells #[.int .i64 r.id, .int .i64 r.src, .int .i64 r.acc, .int .i64 r.made, .int .i64 r.about, .int .u8 r.kind, .int .i64 r.cents, .int .i64 r.of_] 56)
      clear hs2
      gi_wp2
      refine hR.mono ?_
      rintro e W3 (⟨rfl, hJ4, hk3⟩ | ⟨rfl, hJx3⟩)
      · gi_wp2
        have hrg4 := hrg3.of_walks hk3
        go_roundw
        case rel => exact ⟨_, cnt2, ps ++ [r], hrg4, hC2, hJ4⟩
        case measure => rw [hrg4.left_eq, hrg.left_eq]; exact hlt
      · gi_wp2
        refine bodyPost_ret (results_none rfl _ _ _) rfl ?_
        exact ⟨⟨_, rfl⟩, .inr ⟨ps ++ [r], trivial, hJx3⟩⟩

theorem valuesM_stops (F : Fence) (n : Nat) (h7 : F.fn 121) (hro : F.round = none) (hn : 1 ≤ n) (Bs b nn : Nat) (L : List Rep) (hL : (L.map Rep.id).Nodup) (w : World) (hBs : Bs < w.heap.size)
    (hc : w.cell? ⟨Bs, 0, none⟩ = some (.map (some b))) (hM : MapFn w Tryz.prog 3 b nn (repG L)) :
    SeqStopsK F n Tryz.prog 121 #[.pointer (some ⟨Bs, 0, none⟩)] encR8 KeepsWalks (fun ys => ys.Perm L) (fun _ => True) L.length w := fun l J Jx W hW hJ _ hY h0 => by
  obtain ⟨D, hD, hat⟩ := hM.below hW hM.lt
  exact valuesM1_in F n h7 hro hn l Bs b nn L hL D hat J Jx hY W hJ ((hW.cell (p := ⟨Bs, 0, none⟩) hBs).trans hc) hD h0

set_option maxHeartbeats 1000000 in
theorem valuesM_any (b : Nat) (w : World) :
    Calls Tryz.prog 114 #[.map (some b)] w fun e w' => e = .returned (.func (.func 121) #[] #[.pointer (some ⟨w.heap.size, 0, none⟩)]) ∧ w' = w.alloc (.cells #[.map (some b)] 104) := by
  go_enter Tryz.func114, Tryz.ntmps114
  go_wp2
  go_ret
  exact ⟨rfl, rfl⟩

set_option maxRecDepth 100000 in
set_option maxHeartbeats 4000000 in
/-- slices.AppendSeq(nil, maps.Values(m)). -/
theorem appendSeqM_in (n : Nat) (hn : 3 ≤ n) (Bs b nn : Nat) (L : List Rep) (hz : L.length ≤ 1000) (hL : (L.map Rep.id).Nodup) (w : World) (hBs : Bs < w.heap.size) (hc : w.cell? ⟨Bs, 0, none⟩ = some (.map (some b))) (hM : MapFn w Tryz.prog 3 b nn (repG L)) :
    CallsIn Fence.wide n Tryz.prog 79 #[.slice none 0 0, .func (.func 121) #[] #[.pointer (some ⟨Bs, 0, none⟩)]] w fun e w' =>
      ∃ v, ∃ ys : List Rep, e = .returned v ∧ ys.Perm L ∧ w'.ownsRow w.heap.size 56 8 v ys.length (ys.flatMap repCells) ∧ Below w.heap.size w w' := by
  have h1 : 1 ≤ n := by omega
  obtain ⟨i0, hi, hz0, hz1, hz2⟩ := info_parts repInfo
  refine callsIn_of_wp_marks Tryz.func79 rfl trivial ?_ rfl
  simp only [Tryz.ntmps79, List.size_toArray, List.length_cons, List.length_nil, Nat.reduceAdd, Nat.reduceSub, Array.replicate_succ, Array.replicate_zero, List.push_toArray, List.append_toArray, List.nil_append, List.cons_append]
  gi_wp2
  have bO := Boxed.new w 27 (.slice none 0 0)
  have hB0 : Below w.heap.size w (w.alloc (.cells #[.slice none 0 0] 27)) := (Below.refl _ w).alloc (Nat.le_refl _) _
  have hsz : (w.alloc (.cells #[.slice none 0 0] 27)).heap.size = w.heap.size + 1 := by simp
  obtain ⟨W0, hW0⟩ : ∃ W0, w.alloc (.cells #[.slice none 0 0] 27) = W0 := ⟨_, rfl⟩
  rw [hW0] at bO hB0 hsz ⊢
  clear hW0
  have hcW := (hB0.cell (p := ⟨Bs, 0, none⟩) (by show Bs < _; omega)).trans hc
  refine wpIn_rangeFunc_ownH rfl h1 (gf := 121) (lb := #[.pointer (some ⟨Bs, 0, none⟩)]) rfl trivial (enters_of Tryz.func121 (by kernel_rfl) rfl)
    (valuesM_stops Fence.wide (n - 1) trivial rfl (by omega) Bs b nn L hL W0 (by omega) hcW (hM.below hB0 hM.lt)) walksK_t walksK_b (Below.refl _ _) (fun _ => rfl)
    (fun pre W => (∃ v, Boxed W w.heap.size 27 v ∧ W.ownsRow w.heap.size 56 8 v pre.length (pre.flatMap repCells) ∧ True) ∧ Below w.heap.size w W)
    (fun _ _ _ => False)
    (OwnFrom.and (Own.from (holdsRow_own w.heap.size w.heap.size 27 56 8 (fun pre : List Rep => pre.length) (fun pre : List Rep => pre.flatMap repCells) (fun _ _ => True)) _) (ownFrom_below (Nat.le_refl _) (by omega)))
    (fun _ _ _ _ _ hs _ _ => hs)
    ⟨⟨_, bO, World.ownsRow_nil _ _ _ _, trivial⟩, hB0⟩
    (fun x a' W => ∃ Bx, w.heap.size < Bx ∧ Blk W Bx #[.int .i64 x.id, .int .i64 x.src, .int .i64 x.acc, .int .i64 x.made, .int .i64 x.about, .int .u8 x.kind, .int .i64 x.cents, .int .i64 x.of_] 56 ∧ a' = { tmps := #[.slice none 0 0, .func (.func 121) #[] #[.pointer (some ⟨Bs, 0, none⟩)], .pointer (some ⟨w.heap.size, 0, none⟩), undef, .slice none 0 0, .pointer (some ⟨Bx, 0, none⟩), .func (.func 121) #[] #[.pointer (some ⟨Bs, 0, none⟩)], .agg #[.int .i64 x.id, .int .i64 x.src, .int .i64 x.acc, .int .i64 x.made, .int .i64 x.about, .int .u8 x.kind, .int .i64 x.cents, .int .i64 x.of_], undef, undef, undef, undef, undef], defers := [] })
    (fun x a' _ X Y row hs hg hr => by obtain ⟨Bx, h1, h2, h3⟩ := hs; exact ⟨Bx, h1, blk_own Bx 56 (fun (_ : Unit) => #[.int .i64 x.id, .int .i64 x.src, .int .i64 x.acc, .int .i64 x.made, .int .i64 x.about, .int .u8 x.kind, .int .i64 x.cents, .int .i64 x.of_]) () X Y row h2 hg (fun r e => (hr r e).2), h3⟩)
    ?assign ?body ?done ?stop
  case assign =>
    rintro l pre x W K ⟨⟨v, hv, hrow, _⟩, hB⟩ hK
    gi_wp2
    exact hK _ _ ((KeepsOthers.alloc _ _).from _) (KeepsWalks.alloc _ _) ⟨⟨v, hv.alloc _, hrow.alloc _, trivial⟩, hB.alloc hB.size _⟩ ⟨W.heap.size, hv.lt, Blk.new W _ _, rfl⟩
  case body =>
    rintro l pre x a' W hl ⟨r, hr⟩ ⟨⟨v, hv, hrow, _⟩, hB⟩ ⟨Bx, hBx, bX, rfl⟩ hlt
    have hc := hv.cell
    have cX := bX.cell
    gi_wp2_with (gi_at_builtin; refine wpListIn_append_own _ rfl _ _ 27 rfl w.heap.size 56 i0 _ 8 64 Tryz.underlying27 hi hz0 hz1 hz2 rfl (by decide) _ _ _ rfl (hrow.alloc _) ⟨W.heap.size, 0, none⟩ 1 1 (repCells x) rfl rfl (cells_new8 _ _) (repCells_one _) (by unfold maxLen; omega) (by omega) (by have := hB.size; simp; omega) ?_; intro v' w1 hown' hgrow _; obtain ⟨g', cap', rfl⟩ := ownsRow_succ hown'; obtain ⟨hv1, hv2, hr2, hk2, hb2⟩ := hv.appended (by decide) hrow hB.size (Nat.le_refl _) hown' hgrow; have hc1 := hv1.cell; have hf1 := hv1.frozen)
    exact ⟨hk2.from _, hk2.walks, ⟨⟨_, hv2, by rw [repCells_snoc, List.length_append]; exact hr2, trivial⟩, hB.trans hb2⟩⟩
  case done =>
    rintro D ys W hD hp ⟨⟨v, hv, hrow, _⟩, hB⟩ hK
    have hc := hv.cell
    gi_wp2
    refine ⟨by simp, .inl ⟨_, _, rfl, run_takeDeferred hK, ?_⟩⟩
    exact ⟨_, results_tmp rfl _ _ _, v, ys, rfl, hp, ownsRow_putObj hrow _ hK rfl, hB.trans (belowK_b (w := w) (Nat.le_refl _) W D _ _ (by omega) hK rfl rfl)⟩
  case stop =>
    rintro D c pre W _ _ h _
    exact h.elim

set_option maxHeartbeats 1000000 in
theorem collectM_any (Bs b nn : Nat) (L : List Rep) (hz : L.length ≤ 1000) (hL : (L.map Rep.id).Nodup) (w : World) (hBs : Bs < w.heap.size) (hc : w.cell? ⟨Bs, 0, none⟩ = some (.map (some b))) (hM : MapFn w Tryz.prog 3 b nn (repG L)) :
    Calls Tryz.prog 55 #[.func (.func 121) #[] #[.pointer (some ⟨Bs, 0, none⟩)]] w fun e w' =>
      ∃ v, ∃ ys : List Rep, e = .returned v ∧ ys.Perm L ∧ w'.ownsRow w.heap.size 56 8 v ys.length (ys.flatMap repCells) ∧ Below w.heap.size w w' := by
  have HA := Lib.hid (callsIn_wide.1 (appendSeqM_in 3 (Nat.le_refl _) Bs b nn L hz hL w hBs hc hM))
  clear hc hM
  go_enter Tryz.func55, Tryz.ntmps55
  go_wp2_with (go_at_call 79; with_reducible refine (HA.out).mono ?_; rintro e w' ⟨v, ys, rfl, hp, hown, hb⟩)
  go_ret
  exact ⟨v, ys, rfl, hp, hown, hb⟩


end Go.Proofs.YtkpaikampmeooaaGreatDoor

namespace Go.Proofs.YtkpaikampmeooaaGreatDoor
open Go.RowKit Go.Shelf Go.Maps

theorem repCells_l8 (x : Rep) : (repCells x).length = 8 := rfl
theorem grownBy_sortK {α : Type} [Inhabited α] {enc : α → List Value} {k : Nat} {w : World} {g n : Nat} {os : Array Obj} (d : Array α) : w.grownBy (sortWorldK enc k w g 0 n d os) (some g) := by
  unfold sortWorldK Sort.putRowK
  refine ⟨rfl, rfl, rfl, by simp, fun j hj hne => ?_⟩
  rw [Sort.heap_grow_old _ _ (by simpa using hj)]
  have : g ≠ j := fun e => hne (by rw [e])
  simp [Sort.putRow, Sort.mapBlock, Sort.ahead, Array.getElem?_modify, this]
theorem holdsK_of_own {w : World} {base g n c : Nat} {l : List Rep} (h : w.ownsRow base 56 8 (.slice (some ⟨g, 0, none⟩) n c) n (l.flatMap repCells)) : Sort.HoldsK repCells 8 w g 0 l.toArray := by
  have hn : n = l.length := by have := h.1; rw [repCells_len] at this; omega
  subst hn
  intro t ht
  rw [Sort.size_flatK] at ht
  have ht' : t < l.length * 8 := by simpa using ht
  refine ⟨?_, by rw [Nat.zero_add]; exact h.frozenAt t⟩
  have hq : t / 8 < l.length := by omega
  have hm : t % 8 < 8 := Nat.mod_lt _ (by omega)
  have e : t = t / 8 * 8 + t % 8 := by omega
  rw [Nat.zero_add, h.cellAt t ht', Sort.get_flatK _ _ _ t ht]
  show (l.flatMap repCells)[t]? = some _
  conv => lhs; rw [e]
  rw [repCells_get l (t / 8) hq (t % 8) hm]
  have e2 : (l.toArray[t / 8]! : Rep) = l[t / 8] := by simp [hq]
  rw [e2]
  have hlen : (repCells l[t / 8]).length = 8 := repCells_l8 _
  rw [List.getElem?_eq_getElem (by omega)]
  simp [hlen, hm]
theorem own_sorted {W : World} {base g cap m : Nat} {zs : List Rep} {d : Array Rep} {os : Array Obj} (h : W.ownsRow base 56 8 (.slice (some ⟨g, 0, none⟩) zs.length cap) zs.length (zs.flatMap repCells)) (hs : d.size = zs.length) (hg : g < W.heap.size) :
    (sortWorldK repCells 8 W g 0 m d os).ownsRow base 56 8 (.slice (some ⟨g, 0, none⟩) zs.length cap) zs.length (d.toList.flatMap repCells) := by
  have hH := holdsK_sortWorldK_c repCells 8 W g 0 zs.toArray d m os (holdsK_of_own h) hg (by simpa using hs)
  rcases h.2 with ⟨h1, _⟩ | ⟨g', cap', cur, h1, h2, h3, h4, h5, h6, h7⟩
  · cases h1
  · injection h1 with e1 _ e2
    injection e1 with e1
    injection e1 with e1
    subst e1
    subst e2
    have hl : (d.toList.flatMap repCells).length = zs.length * 8 := by rw [repCells_len, Array.length_toList, hs]
    have hb : (sortWorldK repCells 8 W g 0 m d os).heap[g]? = some (.cells (Sort.putCells id 0 (Sort.flatK repCells 8 d) cur) 56 (0, 0)) := by
      unfold sortWorldK Sort.putRowK
      rw [Sort.heap_grow_old _ _ (by simpa [Sort.putRow, Sort.mapBlock, Sort.ahead] using hg)]
      simp [Sort.putRow, Sort.mapBlock, Sort.ahead, Array.getElem?_modify, h3, Sort.onCells]
    have hsz : (Sort.putCells id 0 (Sort.flatK repCells 8 d) cur).size = cur.size := by simp [Sort.putCells]
    refine ⟨hl, .inr ⟨g, cap, _, rfl, h2, hb, h4, h5, by rw [hsz]; exact h6, ?_⟩⟩
    have hcz : zs.length * 8 ≤ cur.size := by rw [h6]; exact Nat.mul_le_mul_right 8 h4
    apply List.ext_getElem?
    intro t
    by_cases ht : t < zs.length * 8
    · rw [List.getElem?_take, if_pos ht]
      have ht' : t < d.size * 8 := by rw [hs]; exact ht
      have hq : t / 8 < d.toList.length := by rw [Array.length_toList]; omega
      have hm : t % 8 < 8 := Nat.mod_lt _ (by omega)
      have e : t = t / 8 * 8 + t % 8 := by omega
      have hc := (hH t (by rw [Sort.size_flatK]; exact ht')).1
      rw [Nat.zero_add, Sort.get_flatK _ _ _ t ht'] at hc
      have hcell : (sortWorldK repCells 8 W g 0 m d os).cell? ⟨g, t, none⟩ = (Sort.putCells id 0 (Sort.flatK repCells 8 d) cur)[t]? := by
        simp [World.cell?, hb]
      rw [hcell] at hc
      rw [Array.getElem?_toList, hc]
      conv => rhs; rw [e]
      rw [repCells_get d.toList (t / 8) hq (t % 8) hm]
      have e2 : (d[t / 8]! : Rep) = d.toList[t / 8] := by simp [show t / 8 < d.size by simpa using hq]
      rw [e2]
      have hlen : (repCells d.toList[t / 8]).length = 8 := repCells_l8 _
      rw [List.getElem?_eq_getElem (by omega), getElem!_pos _ _ (by omega)]
      rfl
    · rw [List.getElem?_eq_none (by simp; omega), List.getElem?_eq_none (by omega)]
theorem sortFuncR_none (fv : Value) (W : World) : Calls Tryz.prog 118 #[.slice none 0 0, fv] W fun e w' => e = .returned (.tuple #[]) ∧ w' = W :=
  AnyF.slices_SortFunc_none Tryz.sortRep none 0 fv W

theorem own_low {w : World} {base base' : Nat} {e : TypeId} {size : Nat} {v : Value} {n : Nat} {xs : List Value} (h : w.ownsRow base e size v n xs) (hb : base' ≤ base) : w.ownsRow base' e size v n xs := by
  refine ⟨h.1, ?_⟩
  rcases h.2 with h0 | ⟨g, cap, cur, h1, h2, h3, h4⟩
  · exact .inl h0
  · exact .inr ⟨g, cap, cur, h1, Nat.le_trans hb h2, h3, h4⟩
/-- By made, and of the same by number. -/
def leM (x y : Rep) : Prop := x.made < y.made ∨ x.made = y.made ∧ x.id ≤ y.id
theorem ltOfM (x y : Rep) : ltOf (fun x y : Rep => lexI (Lib.compareInt x.made y.made) (Lib.compareInt x.id y.id)) x y = decide (x.made < y.made ∨ x.made = y.made ∧ x.id < y.id) := by
  unfold ltOf lexI Lib.compareInt
  by_cases h1 : x.made < y.made
  · simp [h1]
  · by_cases h2 : y.made < x.made
    · have : ¬ x.made = y.made := by omega
      simp [h1, h2, this]
    · have h3 : x.made = y.made := by omega
      by_cases h4 : x.id < y.id
      · simp [h3, h4]
      · by_cases h5 : y.id < x.id <;> simp [h3, h4, h5]
theorem swoM : Sort.SWO (ltOf (fun x y : Rep => lexI (Lib.compareInt x.made y.made) (Lib.compareInt x.id y.id))) where
  irrefl x := by rw [ltOfM]; simp
  trans x y z h1 h2 := by rw [ltOfM] at *; simp at *; omega
  ntrans x y z h1 h2 := by rw [ltOfM] at *; simp at *; omega
theorem cmpM_lays (kb fb g n : Nat) (W : World) (hb : ByM W kb fb) (hk : kb ≠ g) (hf : fb ≠ g) :
    CmpLays Tryz.prog 105 #[.pointer (some ⟨kb, 0, none⟩)] repCells 8 (fun x y : Rep => lexI (Lib.compareInt x.made y.made) (Lib.compareInt x.id y.id)) g 0 n W := fun m os dk _ x y => by
  have hg : W.grownBy (sortWorldK repCells 8 W g 0 m dk os) (some g) := grownBy_sortK dk
  obtain ⟨h1, h2, h3, h4, h5⟩ := hb
  have q1 := hg.block kb h1 (fun e => hk (Option.some.inj e))
  have q2 := hg.block fb h2 (fun e => hf (Option.some.inj e))
  exact cmpM_any x y kb fb _ ⟨Nat.lt_of_lt_of_le h1 hg.size, Nat.lt_of_lt_of_le h2 hg.size, (World.cell?_of_block (w := W) q1).trans h3, (World.cell?_of_block (w := W) q2).trans h4, (World.cell?_of_block (w := W) q2).trans h5⟩
theorem sortFuncM_some (base g kb fb cap : Nat) (zs : List Rep) (W : World) (hb : ByM W kb fb) (hk : kb ≠ g) (hf : fb ≠ g) (hg : g < W.heap.size) (hown : W.ownsRow base 56 8 (.slice (some ⟨g, 0, none⟩) zs.length cap) zs.length (zs.flatMap repCells)) (hz : zs.length ≤ 1000) :
    Calls Tryz.prog 118 #[.slice (some ⟨g, 0, none⟩) zs.length cap, .func (.func 105) #[] #[.pointer (some ⟨kb, 0, none⟩)]] W fun e w' =>
      e = .returned (.tuple #[]) ∧ ∃ l' : List Rep, l'.Perm zs ∧ l'.Pairwise leM ∧ w'.ownsRow base 56 8 (.slice (some ⟨g, 0, none⟩) zs.length cap) zs.length (l'.flatMap repCells) ∧ W.grownBy w' (some g) := by
  have h := AnyQ.slices_SortFunc Tryz.sortRep 8 Tryz.isAgg56 Tryz.sizeOf56 repCells repCells_l8 repCells_one (fun x y : Rep => lexI (Lib.compareInt x.made y.made) (Lib.compareInt x.id y.id)) swoM 105 #[.pointer (some ⟨kb, 0, none⟩)] g 0 cap zs.toArray W
    (enters_of Tryz.func105 (by kernel_rfl) rfl) (cmpM_lays kb fb g _ W hb hk hf) (holdsK_of_own hown) hg (by simp; omega)
  rw [List.size_toArray] at h
  refine h.mono fun e w' ⟨he, d', n, os, hp, hs, hw⟩ => ⟨he, d'.toList, ?_, ?_, ?_, ?_⟩
  · have := hp.2.2
    rw [List.extract_toArray] at this
    have hs' : d'.toList.length = zs.length := by have := hp.1; simpa using this
    simp only [Nat.sub_zero, List.drop_zero, Array.toList_extract, List.extract_eq_take_drop, List.take_of_length_le (Nat.le_refl _), List.take_of_length_le (Nat.le_of_eq hs')] at this
    simpa using this
  · rw [List.pairwise_iff_getElem]
    intro i j hi hj hij
    have hs' : d'.size = zs.length := by have := hp.1; simpa using this
    simp only [Array.length_toList] at hi hj
    have := hs i j (Nat.zero_le _) hij (by omega)
    rw [ltOfM, decide_eq_false_iff_not] at this
    simp only [getElem!_pos, hi, hj] at this
    show d'.toList[i].made < d'.toList[j].made ∨ d'.toList[i].made = d'.toList[j].made ∧ d'.toList[i].id ≤ d'.toList[j].id
    simp only [Array.getElem_toList]
    omega
  · subst hw
    exact own_sorted hown (by have := hp.1; simpa using this) hg
  · subst hw; exact grownBy_sortK d'

/-- By about, and of the same by number. -/
def leA (x y : Rep) : Prop := x.about < y.about ∨ x.about = y.about ∧ x.id ≤ y.id
theorem ltOfA (x y : Rep) : ltOf (fun x y : Rep => lexI (Lib.compareInt x.about y.about) (Lib.compareInt x.id y.id)) x y = decide (x.about < y.about ∨ x.about = y.about ∧ x.id < y.id) := by
  unfold ltOf lexI Lib.compareInt
  by_cases h1 : x.about < y.about
  · simp [h1]
  · by_cases h2 : y.about < x.about
    · have : ¬ x.about = y.about := by omega
      simp [h1, h2, this]
    · have h3 : x.about = y.about := by omega
      by_cases h4 : x.id < y.id
      · simp [h3, h4]
      · by_cases h5 : y.id < x.id <;> simp [h3, h4, h5]
theorem swoA : Sort.SWO (ltOf (fun x y : Rep => lexI (Lib.compareInt x.about y.about) (Lib.compareInt x.id y.id))) where
  irrefl x := by rw [ltOfA]; simp
  trans x y z h1 h2 := by rw [ltOfA] at *; simp at *; omega
  ntrans x y z h1 h2 := by rw [ltOfA] at *; simp at *; omega
theorem cmpA_lays (kb fb g n : Nat) (W : World) (hb : ByA W kb fb) (hk : kb ≠ g) (hf : fb ≠ g) :
    CmpLays Tryz.prog 105 #[.pointer (some ⟨kb, 0, none⟩)] repCells 8 (fun x y : Rep => lexI (Lib.compareInt x.about y.about) (Lib.compareInt x.id y.id)) g 0 n W := fun m os dk _ x y => by
  have hg : W.grownBy (sortWorldK repCells 8 W g 0 m dk os) (some g) := grownBy_sortK dk
  obtain ⟨h1, h2, h3, h4, h5⟩ := hb
  have q1 := hg.block kb h1 (fun e => hk (Option.some.inj e))
  have q2 := hg.block fb h2 (fun e => hf (Option.some.inj e))
  exact cmpA_any x y kb fb _ ⟨Nat.lt_of_lt_of_le h1 hg.size, Nat.lt_of_lt_of_le h2 hg.size, (World.cell?_of_block (w := W) q1).trans h3, (World.cell?_of_block (w := W) q2).trans h4, (World.cell?_of_block (w := W) q2).trans h5⟩
theorem sortFuncA_some (base g kb fb cap : Nat) (zs : List Rep) (W : World) (hb : ByA W kb fb) (hk : kb ≠ g) (hf : fb ≠ g) (hg : g < W.heap.size) (hown : W.ownsRow base 56 8 (.slice (some ⟨g, 0, none⟩) zs.length cap) zs.length (zs.flatMap repCells)) (hz : zs.length ≤ 1000) :
    Calls Tryz.prog 118 #[.slice (some ⟨g, 0, none⟩) zs.length cap, .func (.func 105) #[] #[.pointer (some ⟨kb, 0, none⟩)]] W fun e w' =>
      e = .returned (.tuple #[]) ∧ ∃ l' : List Rep, l'.Perm zs ∧ l'.Pairwise leA ∧ w'.ownsRow base 56 8 (.slice (some ⟨g, 0, none⟩) zs.length cap) zs.length (l'.flatMap repCells) ∧ W.grownBy w' (some g) := by
  have h := AnyQ.slices_SortFunc Tryz.sortRep 8 Tryz.isAgg56 Tryz.sizeOf56 repCells repCells_l8 repCells_one (fun x y : Rep => lexI (Lib.compareInt x.about y.about) (Lib.compareInt x.id y.id)) swoA 105 #[.pointer (some ⟨kb, 0, none⟩)] g 0 cap zs.toArray W
    (enters_of Tryz.func105 (by kernel_rfl) rfl) (cmpA_lays kb fb g _ W hb hk hf) (holdsK_of_own hown) hg (by simp; omega)
  rw [List.size_toArray] at h
  refine h.mono fun e w' ⟨he, d', n, os, hp, hs, hw⟩ => ⟨he, d'.toList, ?_, ?_, ?_, ?_⟩
  · have := hp.2.2
    rw [List.extract_toArray] at this
    have hs' : d'.toList.length = zs.length := by have := hp.1; simpa using this
    simp only [Nat.sub_zero, List.drop_zero, Array.toList_extract, List.extract_eq_take_drop, List.take_of_length_le (Nat.le_refl _), List.take_of_length_le (Nat.le_of_eq hs')] at this
    simpa using this
  · rw [List.pairwise_iff_getElem]
    intro i j hi hj hij
    have hs' : d'.size = zs.length := by have := hp.1; simpa using this
    simp only [Array.length_toList] at hi hj
    have := hs i j (Nat.zero_le _) hij (by omega)
    rw [ltOfA, decide_eq_false_iff_not] at this
    simp only [getElem!_pos, hi, hj] at this
    show d'.toList[i].about < d'.toList[j].about ∨ d'.toList[i].about = d'.toList[j].about ∧ d'.toList[i].id ≤ d'.toList[j].id
    simp only [Array.getElem_toList]
    omega
  · subst hw
    exact own_sorted hown (by have := hp.1; simpa using this) hg
  · subst hw; exact grownBy_sortK d'

set_option maxHeartbeats 1000000 in
theorem sortedM_any (Bs b nn : Nat) (L : List Rep) (hz : L.length ≤ 1000) (hL : (L.map Rep.id).Nodup) (kb fb : Nat) (w : World) (hBs : Bs < w.heap.size) (hc : w.cell? ⟨Bs, 0, none⟩ = some (.map (some b))) (hM : MapFn w Tryz.prog 3 b nn (repG L)) (hb : ByM w kb fb) :
    Calls Tryz.prog 104 #[.func (.func 121) #[] #[.pointer (some ⟨Bs, 0, none⟩)], .func (.func 105) #[] #[.pointer (some ⟨kb, 0, none⟩)]] w fun e w' =>
      ∃ A' c', ∃ l' : List Rep, e = .returned (.slice A' l'.length c') ∧ l'.Perm L ∧ l'.Pairwise leM ∧ w'.ownsRow w.heap.size 56 8 (.slice A' l'.length c') l'.length (l'.flatMap repCells) ∧ Below w.heap.size w w' := by
  have HC := Lib.hid (collectM_any Bs b nn L hz hL w hBs hc hM)
  clear hc hM
  go_enter Tryz.func104, Tryz.ntmps104
  go_wp2_with (go_at_call 55; with_reducible refine (HC.out).mono ?_; rintro e w1 ⟨v, zs, rfl, hpz, hown, hb1⟩)
  have hzz : zs.length ≤ 1000 := Nat.le_trans (Nat.le_of_eq hpz.length_eq) hz
  obtain ⟨hk0, hf0, hbk, hbf, hbf1⟩ := hb
  have hB1 : ByM w1 kb fb := ⟨Nat.lt_of_lt_of_le hk0 hb1.size, Nat.lt_of_lt_of_le hf0 hb1.size, (hb1.cell (p := ⟨kb, 0, none⟩) hk0).trans hbk, (hb1.cell (p := ⟨fb, 0, none⟩) hf0).trans hbf, (hb1.cell (p := ⟨fb, 1, none⟩) hf0).trans hbf1⟩
  have hz1 := hb1.size
  have HB1 := Lib.hid hB1
  clear hB1 hbk hbf hbf1
  have Hown := Lib.hid hown
  have Hpz := Lib.hid hpz
  clear hpz
  rcases hown.2 with ⟨rfl, h0⟩ | ⟨g, cap1, cur, rfl, hbase, hbg, h1, h2, h3, h4⟩
  · have hnil : zs = [] := List.eq_nil_of_length_eq_zero h0
    subst hnil
    have HS := Lib.hid (sortFuncR_none (.func (.func 105) #[] #[.pointer (some ⟨kb, 0, none⟩)]) w1)
    clear hown
    go_wp2_with (go_at_call 118; with_reducible refine (HS.out).mono ?_; rintro e w2 ⟨rfl, rfl⟩)
    go_ret
    exact ⟨none, 0, [], rfl, Hpz.out, List.Pairwise.nil, World.ownsRow_nil _ _ _ _, hb1⟩
  · have hg : g < w1.heap.size := (Array.getElem?_eq_some_iff.1 hbg).1
    have HS := Lib.hid (sortFuncM_some w.heap.size g kb fb cap1 zs w1 HB1.out (by omega) (by omega) hg hown hzz)
    clear hown hbg h4 h3
    go_wp2_with (go_at_call 118; with_reducible refine (HS.out).mono ?_; rintro e w2 ⟨rfl, l', hp, hs, hP, hg2⟩)
    go_ret
    have hlen : l'.length = zs.length := hp.length_eq
    exact ⟨some ⟨g, 0, none⟩, cap1, l', by rw [hlen]; rfl, hp.trans Hpz.out, hs, by rw [hlen]; exact hP, hb1.grown hg2 hz1 (fun k e => by cases e; exact hbase)⟩

set_option maxHeartbeats 1000000 in
theorem byM_any (Bs b nn : Nat) (L : List Rep) (hz : L.length ≤ 1000) (hL : (L.map Rep.id).Nodup) (fb : Nat) (w : World) (hBs : Bs < w.heap.size) (hc : w.cell? ⟨Bs, 0, none⟩ = some (.map (some b))) (hM : MapFn w Tryz.prog 3 b nn (repG L)) (hfb : fb < w.heap.size) (hf0 : w.cell? ⟨fb, 0, none⟩ = some (.func (.func 115) #[] #[])) (hf1 : w.cell? ⟨fb, 1, none⟩ = some (.func (.func 84) #[] #[])) :
    Calls Tryz.prog 82 #[.func (.func 121) #[] #[.pointer (some ⟨Bs, 0, none⟩)], .slice (some ⟨fb, 0, none⟩) 2 2] w fun e w' =>
      ∃ A' c', ∃ l' : List Rep, e = .returned (.slice A' l'.length c') ∧ l'.Perm L ∧ l'.Pairwise leM ∧ w'.ownsRow w.heap.size 56 8 (.slice A' l'.length c') l'.length (l'.flatMap repCells) ∧ Below w.heap.size w w' := by
  have hb1 : Below w.heap.size w (w.alloc (.cells #[.slice (some ⟨fb, 0, none⟩) 2 2] 150)) := (Below.refl _ _).alloc (Nat.le_refl _) _
  have k0 := Blk.new w #[.slice (some ⟨fb, 0, none⟩) 2 2] 150
  have hB : ByM (w.alloc (.cells #[.slice (some ⟨fb, 0, none⟩) 2 2] 150)) w.heap.size fb := ⟨k0.lt, Nat.lt_of_lt_of_le hfb hb1.size, k0.cell 0, (hb1.cell (p := ⟨fb, 0, none⟩) hfb).trans hf0, (hb1.cell (p := ⟨fb, 1, none⟩) hfb).trans hf1⟩
  have HS := Lib.hid (sortedM_any Bs b nn L hz hL w.heap.size fb _ (Nat.lt_of_lt_of_le hBs hb1.size) ((hb1.cell (p := ⟨Bs, 0, none⟩) hBs).trans hc) (hM.below hb1 hM.lt) hB)
  clear hc hM hf0 hf1 hB k0
  go_enter Tryz.func82, Tryz.ntmps82
  go_wp2_with (go_at_call 104; with_reducible refine (HS.out).mono ?_; rintro e w2 ⟨A', c', l', rfl, hp, hs, hown, hb2⟩)
  go_ret
  exact ⟨A', c', l', rfl, hp, hs, own_low hown hb1.size, hb1.trans (hb2.mono hb1.size)⟩

set_option maxHeartbeats 1000000 in
theorem sortedA_any (Bs : Nat) (A : Option Addr) (cap : Nat) (L : List Rep) (hz : L.length ≤ 1000) (kb fb : Nat) (w : World) (hBs : Bs < w.heap.size) (hc : w.cell? ⟨Bs, 0, none⟩ = some (.slice A L.length cap)) (hS : Reps w w.heap.size A L) (hb : ByA w kb fb) :
    Calls Tryz.prog 104 #[.func (.func 103) #[] #[.pointer (some ⟨Bs, 0, none⟩)], .func (.func 105) #[] #[.pointer (some ⟨kb, 0, none⟩)]] w fun e w' =>
      ∃ A' c', ∃ l' : List Rep, e = .returned (.slice A' l'.length c') ∧ l'.Perm L ∧ l'.Pairwise leA ∧ w'.ownsRow w.heap.size 56 8 (.slice A' l'.length c') l'.length (l'.flatMap repCells) ∧ Below w.heap.size w w' := by
  have HC := Lib.hid (collectR_any Bs w.heap.size A cap L hz w hBs (Nat.le_refl _) hc hS)
  clear hc hS
  go_enter Tryz.func104, Tryz.ntmps104
  go_wp2_with (go_at_call 55; with_reducible refine (HC.out).mono ?_; rintro e w1 ⟨v, rfl, hown, hb1⟩)
  obtain ⟨zs, rfl⟩ : ∃ zs, zs = L := ⟨_, rfl⟩
  have hzz := hz
  have hpz := List.Perm.refl zs
  obtain ⟨hk0, hf0, hbk, hbf, hbf1⟩ := hb
  have hB1 : ByA w1 kb fb := ⟨Nat.lt_of_lt_of_le hk0 hb1.size, Nat.lt_of_lt_of_le hf0 hb1.size, (hb1.cell (p := ⟨kb, 0, none⟩) hk0).trans hbk, (hb1.cell (p := ⟨fb, 0, none⟩) hf0).trans hbf, (hb1.cell (p := ⟨fb, 1, none⟩) hf0).trans hbf1⟩
  have hz1 := hb1.size
  have HB1 := Lib.hid hB1
  clear hB1 hbk hbf hbf1
  have Hown := Lib.hid hown
  have Hpz := Lib.hid hpz
  clear hpz
  rcases hown.2 with ⟨rfl, h0⟩ | ⟨g, cap1, cur, rfl, hbase, hbg, h1, h2, h3, h4⟩
  · have hnil : zs = [] := List.eq_nil_of_length_eq_zero h0
    subst hnil
    have HS := Lib.hid (sortFuncR_none (.func (.func 105) #[] #[.pointer (some ⟨kb, 0, none⟩)]) w1)
    clear hown
    go_wp2_with (go_at_call 118; with_reducible refine (HS.out).mono ?_; rintro e w2 ⟨rfl, rfl⟩)
    go_ret
    exact ⟨none, 0, [], rfl, Hpz.out, List.Pairwise.nil, World.ownsRow_nil _ _ _ _, hb1⟩
  · have hg : g < w1.heap.size := (Array.getElem?_eq_some_iff.1 hbg).1
    have HS := Lib.hid (sortFuncA_some w.heap.size g kb fb cap1 zs w1 HB1.out (by omega) (by omega) hg hown hzz)
    clear hown hbg h4 h3
    go_wp2_with (go_at_call 118; with_reducible refine (HS.out).mono ?_; rintro e w2 ⟨rfl, l', hp, hs, hP, hg2⟩)
    go_ret
    have hlen : l'.length = zs.length := hp.length_eq
    exact ⟨some ⟨g, 0, none⟩, cap1, l', by rw [hlen]; rfl, hp.trans Hpz.out, hs, by rw [hlen]; exact hP, hb1.grown hg2 hz1 (fun k e => by cases e; exact hbase)⟩

set_option maxHeartbeats 1000000 in
theorem byA_any (Bs : Nat) (A : Option Addr) (cap : Nat) (L : List Rep) (hz : L.length ≤ 1000) (fb : Nat) (w : World) (hBs : Bs < w.heap.size) (hc : w.cell? ⟨Bs, 0, none⟩ = some (.slice A L.length cap)) (hS : Reps w w.heap.size A L) (hfb : fb < w.heap.size) (hf0 : w.cell? ⟨fb, 0, none⟩ = some (.func (.func 83) #[] #[])) (hf1 : w.cell? ⟨fb, 1, none⟩ = some (.func (.func 84) #[] #[])) :
    Calls Tryz.prog 82 #[.func (.func 103) #[] #[.pointer (some ⟨Bs, 0, none⟩)], .slice (some ⟨fb, 0, none⟩) 2 2] w fun e w' =>
      ∃ A' c', ∃ l' : List Rep, e = .returned (.slice A' l'.length c') ∧ l'.Perm L ∧ l'.Pairwise leA ∧ w'.ownsRow w.heap.size 56 8 (.slice A' l'.length c') l'.length (l'.flatMap repCells) ∧ Below w.heap.size w w' := by
  have hb1 : Below w.heap.size w (w.alloc (.cells #[.slice (some ⟨fb, 0, none⟩) 2 2] 150)) := (Below.refl _ _).alloc (Nat.le_refl _) _
  have k0 := Blk.new w #[.slice (some ⟨fb, 0, none⟩) 2 2] 150
  have hB : ByA (w.alloc (.cells #[.slice (some ⟨fb, 0, none⟩) 2 2] 150)) w.heap.size fb := ⟨k0.lt, Nat.lt_of_lt_of_le hfb hb1.size, k0.cell 0, (hb1.cell (p := ⟨fb, 0, none⟩) hfb).trans hf0, (hb1.cell (p := ⟨fb, 1, none⟩) hfb).trans hf1⟩
  have HS := Lib.hid (sortedA_any Bs A cap L hz w.heap.size fb _ (Nat.lt_of_lt_of_le hBs hb1.size) ((hb1.cell (p := ⟨Bs, 0, none⟩) hBs).trans hc) (hS.later hb1) hB)
  clear hc hS hf0 hf1 hB k0
  go_enter Tryz.func82, Tryz.ntmps82
  go_wp2_with (go_at_call 104; with_reducible refine (HS.out).mono ?_; rintro e w2 ⟨A', c', l', rfl, hp, hs, hown, hb2⟩)
  go_ret
  exact ⟨A', c', l', rfl, hp, hs, own_low hown hb1.size, hb1.trans (hb2.mono hb1.size)⟩

end Go.Proofs.YtkpaikampmeooaaGreatDoor

namespace Go.Proofs.YtkpaikampmeooaaGreatDoor
open Go.RowKit Go.Maps

def kindK (k : Int) (r : Rep) : Bool := decide (r.kind = k)
def idxK (l : List Rep) (k : Int) : Int := match l.findIdx? fun r => !kindK k r with
  | some i => (i : Int)
  | none => -1
theorem idxK_none {l : List Rep} {k : Int} (h : ∀ r ∈ l, r.kind = k) : idxK l k = -1 := by
  have e : (l.findIdx? fun r => !kindK k r) = none := by
    rw [List.findIdx?_eq_none_iff]
    intro r hr
    simp [kindK, h r hr]
  unfold idxK
  rw [e]
theorem idxK_found {l : List Rep} {k : Int} {i : Nat} (hi : i < l.length) (h : l[i].kind ≠ k) (hn : ∀ j, (hj : j < i) → (l[j]'(by omega)).kind = k) : idxK l k = i := by
  have e : (l.findIdx? fun r => !kindK k r) = some i := by
    rw [List.findIdx?_eq_some_iff_getElem]
    refine ⟨hi, by simpa [kindK] using h, fun j hj => by simp [kindK, hn j hj]⟩
  unfold idxK
  rw [e]
theorem idxK_cases (l : List Rep) (k : Int) : (idxK l k = -1 ∧ ∀ r ∈ l, r.kind = k) ∨ ∃ i, ∃ h : i < l.length, idxK l k = i ∧ l[i].kind ≠ k ∧ ∀ j, (hj : j < i) → (l[j]'(by omega)).kind = k := by
  cases hf : l.findIdx? fun r => !kindK k r with
  | none =>
    rw [List.findIdx?_eq_none_iff] at hf
    have h1 : ∀ r ∈ l, r.kind = k := fun r hr => by simpa [kindK] using hf r hr
    exact .inl ⟨idxK_none h1, h1⟩
  | some i =>
    rw [List.findIdx?_eq_some_iff_getElem] at hf
    obtain ⟨hi, h1, h2⟩ := hf
    have h1' : l[i].kind ≠ k := by simpa [kindK] using h1
    have h2' : ∀ j, (hj : j < i) → (l[j]'(by omega)).kind = k := fun j hj => by simpa [kindK] using h2 j hj
    exact .inr ⟨i, hi, idxK_found hi h1' h2', h1', h2'⟩

set_option maxHeartbeats 400000 in
theorem kindPred_any (r : Rep) (k : Int) (kc : Nat) (W : World) (hk : W.cell? ⟨kc, 0, none⟩ = some (.int .u8 k)) (hkc : kc < W.heap.size) :
    Calls Tryz.prog 117 #[.agg #[.int .i64 r.id, .int .i64 r.src, .int .i64 r.acc, .int .i64 r.made, .int .i64 r.about, .int .u8 r.kind, .int .i64 r.cents, .int .i64 r.of_], .pointer (some ⟨kc, 0, none⟩)] W fun e w' => e = .returned (.bool (r.kind != k)) ∧ w' = W.alloc (.cells #[.int .i64 r.id, .int .i64 r.src, .int .i64 r.acc, .int .i64 r.made, .int .i64 r.about, .int .u8 r.kind, .int .i64 r.cents, .int .i64 r.of_] 56) := by
  have hk1 := ((Below.refl W.heap.size W).alloc (Nat.le_refl _) (.cells #[.int .i64 r.id, .int .i64 r.src, .int .i64 r.acc, .int .i64 r.made, .int .i64 r.about, .int .u8 r.kind, .int .i64 r.cents, .int .i64 r.of_] 56)).cell (p := ⟨kc, 0, none⟩) hkc |>.trans hk
  go_enter Tryz.func117, Tryz.ntmps117
  go_wp2
  go_ret
  exact ⟨rfl, rfl⟩

set_option maxRecDepth 100000 in
set_option maxHeartbeats 1000000 in
theorem indexFunc_any (l : List Rep) (A : Option Addr) (c : Nat) (k : Int) (kc : Nat) (w : World) (h : Reps w w.heap.size A l) (hk : w.cell? ⟨kc, 0, none⟩ = some (.int .u8 k)) (hkc : kc < w.heap.size) (hl : l.length ≤ 1000) :
    Calls Tryz.prog 16 #[.slice A l.length c, .func (.func 117) #[] #[.pointer (some ⟨kc, 0, none⟩)]] w fun e w' => e = .returned (.int .i64 (idxK l k)) ∧ Below w.heap.size w w' := by
  have HP := Lib.hid (fun r W h1 h2 => kindPred_any r k kc W h1 h2)
  go_enter Tryz.func16, Tryz.ntmps16
  go_wp2_with fail
  go_loopw [8] (fun ii wr => ∃ i : Nat, i ≤ l.length ∧ ii = .int .i64 i ∧ Hid ((∀ j, (hj : j < i) → (hl : j < l.length) → l[j].kind = k) ∧ Below w.heap.size w wr)) (fun ii _ => l.length - (vInt ii).toNat)
  case atStart => exact ⟨0, Nat.zero_le _, rfl, Lib.hid ⟨fun j hj => by omega, Below.refl _ _⟩⟩
  case round =>
    obtain ⟨i, hi, rfl, hR⟩ := hrel
    by_cases hlt : i < l.length
    · have hil : (i : Int) < (l.length : Int) := by omega
      obtain ⟨hall, hB⟩ := hR.out
      obtain ⟨b, off, rfl, hb, C⟩ := (h.later hB).eight hlt
      obtain ⟨c0, c1, c2, c3, c4, c5, c6, c7⟩ := C
      have HC := Lib.hid (HP.out l[i] wr ((hB.cell (p := ⟨kc, 0, none⟩) hkc).trans hk) (Nat.lt_of_lt_of_le hkc hB.size))
      by_cases he : l[i].kind = k
      · have HR : Hid (∀ j, (hj : j < i + 1) → (hl : j < l.length) → l[j].kind = k) := Lib.hid (fun j hj hl => by
          by_cases hji : j = i
          · subst hji; exact he
          · exact hall j (by omega) hl)
        have hbool : (l[i].kind != k) = false := by simp [he]
        have HCb := Lib.hid (hbool ▸ HC.out)
        clear he hall hR hbool HC
        generalize l[i] = r at *
        go_wp2_with (go_at_call 117; (with_reducible refine (HCb.out).mono ?_); rintro e w2 ⟨rfl, rfl⟩)
        go_roundw
        case rel => exact ⟨i + 1, by omega, by go_num, Lib.hid ⟨HR.out, hB.alloc hB.size _⟩⟩
        case measure => simp [vInt]; omega
      · have Hv : Hid (idxK l k = i) := Lib.hid (idxK_found hlt he (fun j hj => hall j hj (by omega)))
        have hbool : (l[i].kind != k) = true := by simpa using he
        have HCb := Lib.hid (hbool ▸ HC.out)
        clear he hall hR hbool HC
        generalize l[i] = r at *
        go_wp2_with (go_at_call 117; (with_reducible refine (HCb.out).mono ?_); rintro e w2 ⟨rfl, rfl⟩)
        go_ret
        exact ⟨by rw [Hv.out]; rfl, hB.alloc hB.size _⟩
    · have hil : ¬ (i : Int) < (l.length : Int) := by omega
      have Hv : Hid (idxK l k = -1) := Lib.hid (idxK_none (fun r hr => by
        obtain ⟨j, hj, rfl⟩ := List.getElem_of_mem hr
        exact hR.out.1 j (by omega) hj))
      have hfin := hR.out.2
      clear hR
      go_wp2_with fail
      go_ret
      exact ⟨by rw [Hv.out]; rfl, hfin⟩

end Go.Proofs.YtkpaikampmeooaaGreatDoor

namespace Go.Proofs.YtkpaikampmeooaaGreatDoor
open Go.RowKit Go.Maps

/-- While some are taken out: i are left of the first j. -/
structure DelSt (zs ml : List Rep) (k : Int) (i j : Nat) : Prop where
  len : ml.length = zs.length
  take : ml.take i = (zs.take j).filter (kindK k)
  drop : ml.drop j = zs.drop j
  lt : i < j
theorem DelSt.get {zs ml : List Rep} {k : Int} {i j : Nat} (h : DelSt zs ml k i j) (hj : j < zs.length) : ml[j]'(by rw [h.len]; exact hj) = zs[j] := by
  have h1 := h.len
  have h2 : (ml.drop j)[0]? = (zs.drop j)[0]? := by rw [h.drop]
  rw [List.getElem?_drop, List.getElem?_drop, Nat.add_zero, List.getElem?_eq_getElem (by omega), List.getElem?_eq_getElem hj] at h2
  exact Option.some.inj h2
theorem DelSt.skip {zs ml : List Rep} {k : Int} {i j : Nat} (h : DelSt zs ml k i j) (hj : j < zs.length) (hk : zs[j].kind ≠ k) : DelSt zs ml k i (j + 1) := by
  refine ⟨h.len, ?_, ?_, Nat.lt_succ_of_lt h.lt⟩
  · rw [h.take, List.take_succ_eq_append_getElem hj, List.filter_append, List.filter_cons_of_neg (by simpa [kindK] using hk)]; simp
  · have := congrArg (List.drop 1) h.drop
    rw [List.drop_drop, List.drop_drop] at this
    exact this
theorem DelSt.keep {zs ml : List Rep} {k : Int} {i j : Nat} (h : DelSt zs ml k i j) (hj : j < zs.length) (hk : zs[j].kind = k) : DelSt zs (ml.set i zs[j]) k (i + 1) (j + 1) := by
  have h1 := h.len
  have h2 := h.lt
  refine ⟨by rw [List.length_set, h1], ?_, ?_, by omega⟩
  · rw [List.take_succ_eq_append_getElem (by rw [List.length_set]; omega), List.getElem_set_self, List.take_set_of_le (by omega), h.take, List.take_succ_eq_append_getElem hj, List.filter_append, List.filter_cons_of_pos (by simpa [kindK] using hk)]; rfl
  · rw [List.drop_set_of_lt (by omega)]
    have := congrArg (List.drop 1) h.drop
    rw [List.drop_drop, List.drop_drop] at this
    exact this
theorem DelSt.start {zs : List Rep} {k : Int} {i : Nat} (hi : i < zs.length) (h : zs[i].kind ≠ k) (hn : ∀ j, (hj : j < i) → (zs[j]'(by omega)).kind = k) : DelSt zs zs k i (i + 1) := by
  refine ⟨rfl, ?_, rfl, Nat.lt_succ_self i⟩
  rw [List.take_succ_eq_append_getElem hi, List.filter_append, List.filter_cons_of_neg (by simpa [kindK] using h)]
  have : (zs.take i).filter (kindK k) = zs.take i := List.filter_eq_self.2 fun r hr => by
    obtain ⟨j, hj, rfl⟩ := List.getElem_of_mem hr
    rw [List.length_take] at hj
    rw [List.getElem_take]
    simpa [kindK] using hn j (by omega)
  rw [this]; simp
theorem DelSt.end_ {zs ml : List Rep} {k : Int} {i j : Nat} (h : DelSt zs ml k i j) (hj : zs.length ≤ j) : ml.take i = zs.filter (kindK k) := by
  rw [h.take, List.take_of_length_le hj]
theorem clear_law {P : Program} (w : World) (t e ty : TypeId) (z : Value) (ht : P.underlying t = some (.slice e)) (hv : ∀ w, (zeroValue e).run P w = .ok z w) (b o n c : Nat) (hn : 0 < n)
    (h1 : ∀ v ∈ (Builtin.zeroCells z.cells n).toList, v.oneCell' = true) (hc : ∀ j, j < (Builtin.zeroCells z.cells n).toList.length → (w.cell? ⟨b, o + j, none⟩).isSome = true) (hf : ∀ j, j < (Builtin.zeroCells z.cells n).toList.length → w.frozen? ⟨b, o + j, none⟩ = false) :
    (Builtin.clear_ #[t] ty #[.slice (some ⟨b, o, none⟩) n c]).run P w = .ok (.tuple #[]) (w.setCells b o (Builtin.zeroCells z.cells n).toList) := by
  have hst := run_storeCells_cells (P := P) b o (Builtin.zeroCells z.cells n).toList 0 w (by simpa using hc) (by simpa using hf) h1
  simp only [Nat.add_zero] at hst
  obtain ⟨m, rfl⟩ : ∃ m, n = m + 1 := ⟨n - 1, by omega⟩
  simp [Builtin.clear_, run_underlying ht, hv, hst]
theorem setCells_below {B b : Nat} (hb : B ≤ b) : ∀ (vs : List Value) (o : Nat) (w : World), Below B w (w.setCells b o vs)
  | [], _, w => Below.refl _ _
  | v :: vs, o, w => ((Below.refl B w).setCell (by show B ≤ b; exact hb) v).trans (setCells_below hb vs (o + 1) (w.setCell ⟨b, o, none⟩ v))
theorem zeroCells_one (n : Nat) : ∀ v ∈ (Builtin.zeroCells #[.int .i64 0, .int .i64 0, .int .i64 0, .int .i64 0, .int .i64 0, .int .u8 0, .int .i64 0, .int .i64 0] n).toList, v.oneCell' = true := fun v hv => by
  simp only [Builtin.zeroCells, Array.toList_map, List.mem_map] at hv
  obtain ⟨q, _, rfl⟩ := hv
  have hm : q % 8 < 8 := Nat.mod_lt _ (by omega)
  have h8 : q % 8 = 0 ∨ q % 8 = 1 ∨ q % 8 = 2 ∨ q % 8 = 3 ∨ q % 8 = 4 ∨ q % 8 = 5 ∨ q % 8 = 6 ∨ q % 8 = 7 := by omega
  show Value.oneCell' ((#[.int .i64 0, .int .i64 0, .int .i64 0, .int .i64 0, .int .i64 0, .int .u8 0, .int .i64 0, .int .i64 0] : Array Value)[q % 8]!) = true
  rcases h8 with h8 | h8 | h8 | h8 | h8 | h8 | h8 | h8 <;> rw [h8] <;> rfl
theorem zeroCells_len (n : Nat) : (Builtin.zeroCells #[.int .i64 0, .int .i64 0, .int .i64 0, .int .i64 0, .int .i64 0, .int .u8 0, .int .i64 0, .int .i64 0] n).toList.length = n * 8 := by simp [Builtin.zeroCells]

set_option maxRecDepth 100000 in
set_option maxHeartbeats 4000000 in
theorem deleteFunc_any (zs : List Rep) (A : Option Addr) (cap base : Nat) (k : Int) (kc : Nat) (w : World) (hown : w.ownsRow base 56 8 (.slice A zs.length cap) zs.length (zs.flatMap repCells)) (hbase : base ≤ w.heap.size) (hk : w.cell? ⟨kc, 0, none⟩ = some (.int .u8 k)) (hkc : kc < base) (hl : zs.length ≤ 1000) :
    Calls Tryz.prog 116 #[.slice A zs.length cap, .func (.func 117) #[] #[.pointer (some ⟨kc, 0, none⟩)]] w fun e w' => ∃ A' c', e = .returned (.slice A' (zs.filter (kindK k)).length c') ∧ Reps w' w'.heap.size A' (zs.filter (kindK k)) ∧ Below base w w' := by
  have hR := reps_own hown
  have HX := Lib.hid (indexFunc_any zs A cap k kc w hR hk (by omega) hl)
  rcases idxK_cases zs k with ⟨hx, hall⟩ | ⟨i0, hi0, hx, hne, heq⟩
  · rw [hx] at HX
    have hf : zs.filter (kindK k) = zs := List.filter_eq_self.2 fun r hr => by simp [kindK, hall r hr]
    rw [hf]
    have Hfin := Lib.hid hR
    clear hx hall hf hown hk hR
    go_enter Tryz.func116, Tryz.ntmps116
    go_wp2_with (go_at_call 16; (with_reducible refine (HX.out).mono ?_); rintro e w1 ⟨rfl, h1⟩)
    go_ret
    exact ⟨A, cap, rfl, Hfin.out.later h1, h1.mono hbase⟩
  · rw [hx] at HX
    have HS := Lib.hid (DelSt.start hi0 hne heq)
    have Hown := Lib.hid hown
    obtain ⟨g, cap', hv, hbg, hgl⟩ := hown.form (by omega)
    simp only [Value.slice.injEq, true_and] at hv
    obtain ⟨rfl, rfl⟩ := hv
    have hcap : zs.length ≤ cap ∧ cap ≤ maxLen := by
      rcases hown.2 with ⟨h1, _⟩ | ⟨g', cap', cur, h1, _, _, h4, h5, _, _⟩
      · cases h1
      · injection h1 with _ _ e; subst e; exact ⟨h4, h5⟩
    obtain ⟨hcap, hcap2⟩ := hcap
    unfold maxLen at hcap2
    have Hk := Lib.hid hk
    have ei : ((i0 : Int) == -1) = false := beq_eq_false_iff_ne.2 (by omega)
    have hi063 : (i0 : Int) + 1 ≤ 9223372036854775807 := by omega
    have HP := Lib.hid (fun r W h1 h2 => kindPred_any r k kc W h1 h2)
    have hmk := zeroCells_one
    have hml := zeroCells_len
    have HZ1 := Lib.hid hmk
    have HZ2 := Lib.hid hml
    have Hlen : zs.length ≤ 1000 := hl
    clear hx hne heq hown hk hR hmk hml
    go_enter Tryz.func116, Tryz.ntmps116
    go_wp2_with (go_at_call 16; (with_reducible refine (HX.out).mono ?_); rintro e w1 ⟨rfl, h1⟩)
    have Hown1 := Lib.hid (own_below Hown.out h1)
    have HB1 := Lib.hid (h1.mono hbase)
    have hz1 := h1.size
    clear h1 HX Hown
    go_loopw [5, 6] (fun ii jj wr => ∃ (i j : Nat), j ≤ zs.length ∧ i < j ∧ ii = .int .i64 i ∧ jj = .int .i64 j ∧ Hid (∃ ml, DelSt zs ml k i j ∧ wr.ownsRow base 56 8 (.slice (some ⟨g, 0, none⟩) zs.length cap) zs.length (ml.flatMap repCells) ∧ Below base w wr)) (fun _ jj _ => zs.length - (vInt jj).toNat)
    case atStart => exact ⟨i0, i0 + 1, by omega, by omega, rfl, by go_num, Lib.hid ⟨zs, HS.out, Hown1.out, HB1.out⟩⟩
    case round =>
      obtain ⟨i, j, hj, hij, rfl, rfl, hT⟩ := hrel
      clear Hown1 HB1 HS
      obtain ⟨ml, hS, hown, hB⟩ := hT.out
      have hmlen := hS.len
      have hlen8 := repCells_len ml
      by_cases hlt : j < zs.length
      · have hjl : (j : Int) < (zs.length : Int) := by omega
        have hget := hS.get hlt
        have hrow := reps_own (l := ml) (by rw [hmlen]; exact hown)
        obtain ⟨b, off, e', hb, C⟩ := hrow.eight (k := j) (by omega)
        cases e'
        rw [hget, Nat.zero_add] at C
        obtain ⟨c0, c1, c2, c3, c4, c5, c6, c7⟩ := C
        have hkr : wr.cell? ⟨kc, 0, none⟩ = some (.int .u8 k) := (hB.cell (p := ⟨kc, 0, none⟩) hkc).trans Hk.out
        have hBz := hB.size
        have hb1 := (Below.refl wr.heap.size wr).alloc (Nat.le_refl _) (.cells #[.int .i64 zs[j].id, .int .i64 zs[j].src, .int .i64 zs[j].acc, .int .i64 zs[j].made, .int .i64 zs[j].about, .int .u8 zs[j].kind, .int .i64 zs[j].cents, .int .i64 zs[j].of_] 56)
        have hkcw : kc < wr.heap.size := by omega
        have HC := Lib.hid (HP.out zs[j] _ ((hb1.cell (p := ⟨kc, 0, none⟩) hkcw).trans hkr) (Nat.lt_of_lt_of_le hkcw hb1.size))
        have hb2 := hb1.alloc hb1.size (.cells #[.int .i64 zs[j].id, .int .i64 zs[j].src, .int .i64 zs[j].acc, .int .i64 zs[j].made, .int .i64 zs[j].about, .int .u8 zs[j].kind, .int .i64 zs[j].cents, .int .i64 zs[j].of_] 56)
        have HownV := Lib.hid (own_below hown hb2)
        have HBV := Lib.hid (hB.trans (hb2.mono (by omega)))
        have HS := Lib.hid hS
        have hg2 : g < wr.heap.size := hb
        by_cases he : zs[j].kind = k
        · have HN := Lib.hid (hS.keep hlt he)
          have hbool : (zs[j].kind != k) = false := by simp [he]
          have HCb := Lib.hid (hbool ▸ HC.out)
          have hi1 : i < ml.length := by omega
          have HG := Lib.hid (repCells_get ml i hi1)
          have HSt := Lib.hid (repCells_set ml i hi1 zs[j])
          obtain ⟨x, hx⟩ : ∃ x, ml[i] = x := ⟨_, rfl⟩
          rw [hx] at HG
          clear he hS hown hrow hbool HC hget hT hb1 hb2 hB hx
          generalize zs[j] = r at *
          go_upto_region 9 with (go_at_call 117; (with_reducible refine (HCb.out).mono ?_); rintro e w2 ⟨rfl, rfl⟩)
          have k1 := (Blk.new wr #[.int .i64 r.id, .int .i64 r.src, .int .i64 r.acc, .int .i64 r.made, .int .i64 r.about, .int .u8 r.kind, .int .i64 r.cents, .int .i64 r.of_] 56).alloc (.cells #[.int .i64 r.id, .int .i64 r.src, .int .i64 r.acc, .int .i64 r.made, .int .i64 r.about, .int .u8 r.kind, .int .i64 r.cents, .int .i64 r.of_] 56)
          have k1c := k1.cell
          generalize (wr.alloc (.cells #[.int .i64 r.id, .int .i64 r.src, .int .i64 r.acc, .int .i64 r.made, .int .i64 r.about, .int .u8 r.kind, .int .i64 r.cents, .int .i64 r.of_] 56)).alloc (.cells #[.int .i64 r.id, .int .i64 r.src, .int .i64 r.acc, .int .i64 r.made, .int .i64 r.about, .int .u8 r.kind, .int .i64 r.cents, .int .i64 r.of_] 56) = V at *
          have ownV := HownV.out
          have belV := HBV.out
          have hgb := hbg
          have HgV := Lib.hid (show wr.heap.size < V.heap.size from k1.lt)
          have a0 : V.cell? ⟨g, i * 8, none⟩ = some (.int .i64 x.id) := (ownV.cellAt (i * 8) (by omega)).trans (HG.out 0 (by omega))
          have fa0 := ownV.frozenAt (i * 8)
          have a1 : V.cell? ⟨g, i * 8 + 1, none⟩ = some (.int .i64 x.src) := (ownV.cellAt (i * 8 + 1) (by omega)).trans (HG.out 1 (by omega))
          have fa1 := ownV.frozenAt (i * 8 + 1)
          have a2 : V.cell? ⟨g, i * 8 + 2, none⟩ = some (.int .i64 x.acc) := (ownV.cellAt (i * 8 + 2) (by omega)).trans (HG.out 2 (by omega))
          have fa2 := ownV.frozenAt (i * 8 + 2)
          have a3 : V.cell? ⟨g, i * 8 + 3, none⟩ = some (.int .i64 x.made) := (ownV.cellAt (i * 8 + 3) (by omega)).trans (HG.out 3 (by omega))
          have fa3 := ownV.frozenAt (i * 8 + 3)
          have a4 : V.cell? ⟨g, i * 8 + 4, none⟩ = some (.int .i64 x.about) := (ownV.cellAt (i * 8 + 4) (by omega)).trans (HG.out 4 (by omega))
          have fa4 := ownV.frozenAt (i * 8 + 4)
          have a5 : V.cell? ⟨g, i * 8 + 5, none⟩ = some (.int .u8 x.kind) := (ownV.cellAt (i * 8 + 5) (by omega)).trans (HG.out 5 (by omega))
          have fa5 := ownV.frozenAt (i * 8 + 5)
          have a6 : V.cell? ⟨g, i * 8 + 6, none⟩ = some (.int .i64 x.cents) := (ownV.cellAt (i * 8 + 6) (by omega)).trans (HG.out 6 (by omega))
          have fa6 := ownV.frozenAt (i * 8 + 6)
          have a7 : V.cell? ⟨g, i * 8 + 7, none⟩ = some (.int .i64 x.of_) := (ownV.cellAt (i * 8 + 7) (by omega)).trans (HG.out 7 (by omega))
          have fa7 := ownV.frozenAt (i * 8 + 7)
          have hiz : (i : Int) < (zs.length : Int) := by omega
          have OwnV := Lib.hid ownV
          have BelV := Lib.hid belV
          clear c0 c1 c2 c3 c4 c5 c6 c7 ownV belV k1 HownV HBV
          go_wp2_with fail
          go_roundw
          case rel =>
            have ownV := OwnV.out
            have belV := BelV.out
            refine ⟨i + 1, j + 1, by omega, by omega, by go_num, by go_num, Lib.hid ⟨_, HN.out, ?_, ((((((((belV.setCell (by show base ≤ g; omega) _).setCell (by show base ≤ g; omega) _).setCell (by show base ≤ g; omega) _).setCell (by show base ≤ g; omega) _).setCell (by show base ≤ g; omega) _).setCell (by show base ≤ g; omega) _).setCell (by show base ≤ g; omega) _).setCell (by show base ≤ g; omega) _)⟩⟩
            have o := ((((((((ownV.stored (i * 8) (.int .i64 r.id)).1.stored (i * 8 + 1) (.int .i64 r.src)).1.stored (i * 8 + 2) (.int .i64 r.acc)).1.stored (i * 8 + 3) (.int .i64 r.made)).1.stored (i * 8 + 4) (.int .i64 r.about)).1.stored (i * 8 + 5) (.int .u8 r.kind)).1.stored (i * 8 + 6) (.int .i64 r.cents)).1.stored (i * 8 + 7) (.int .i64 r.of_)).1
            rw [← HSt.out] at o
            exact o
          case measure => simp [vInt]; omega
        · have HN := Lib.hid (hS.skip hlt he)
          have hbool : (zs[j].kind != k) = true := by simpa using he
          have HCb := Lib.hid (hbool ▸ HC.out)
          clear he hS hown hrow hbool HC hget hT hb1 hb2 hB
          generalize zs[j] = r at *
          go_wp2_with (go_at_call 117; (with_reducible refine (HCb.out).mono ?_); rintro e w2 ⟨rfl, rfl⟩)
          go_roundw
          case rel => exact ⟨i, j + 1, by omega, by omega, rfl, by go_num, Lib.hid ⟨_, HN.out, HownV.out, HBV.out⟩⟩
          case measure => simp [vInt]; omega
      · have hjl : ¬ (j : Int) < (zs.length : Int) := by omega
        have hend := hS.end_ (by omega)
        have hlen : i ≤ ml.length := by omega
        have hfl : (zs.filter (kindK k)).length = i := by rw [← hend, List.length_take]; omega
        have hjn : j = zs.length := by omega
        subst hjn
        have hlz := zeroCells_len (zs.length - i)
        have hcl : ∀ ty, (Builtin.clear_ #[27] ty #[.slice (some ⟨g, i * 8, none⟩) (zs.length - i) (cap - i)]).run Tryz.prog wr = .ok (.tuple #[]) (wr.setCells g (i * 8) (Builtin.zeroCells #[.int .i64 0, .int .i64 0, .int .i64 0, .int .i64 0, .int .i64 0, .int .u8 0, .int .i64 0, .int .i64 0] (zs.length - i)).toList) := fun ty =>
          clear_law wr _ 56 ty (.agg #[.int .i64 0, .int .i64 0, .int .i64 0, .int .i64 0, .int .i64 0, .int .u8 0, .int .i64 0, .int .i64 0]) Tryz.underlying27 repZero g (i * 8) _ _ (by omega) (zeroCells_one _)
            (fun t ht => by
              rw [show (Value.agg #[.int .i64 0, .int .i64 0, .int .i64 0, .int .i64 0, .int .i64 0, .int .u8 0, .int .i64 0, .int .i64 0]).cells = #[.int .i64 0, .int .i64 0, .int .i64 0, .int .i64 0, .int .i64 0, .int .u8 0, .int .i64 0, .int .i64 0] from rfl, hlz] at ht
              rw [hown.cellAt (i * 8 + t) (by omega), List.getElem?_eq_getElem (by omega)]; rfl)
            (fun t _ => hown.frozenAt (i * 8 + t))
        have HF : Hid (∀ W, Below base W (W.setCells g (i * 8) (Builtin.zeroCells #[.int .i64 0, .int .i64 0, .int .i64 0, .int .i64 0, .int .i64 0, .int .u8 0, .int .i64 0, .int .i64 0] (zs.length - i)).toList)) := Lib.hid (fun W => setCells_below hbg _ _ W)
        have HRf : Hid (Reps (wr.setCells g (i * 8) (Builtin.zeroCells #[.int .i64 0, .int .i64 0, .int .i64 0, .int .i64 0, .int .i64 0, .int .u8 0, .int .i64 0, .int .i64 0] (zs.length - i)).toList) wr.heap.size (some ⟨g, 0, none⟩) (zs.filter (kindK k))) := Lib.hid (fun q hq => by
          obtain ⟨b, off, e', hb, C⟩ := (reps_own (l := ml) (by rw [hmlen]; exact hown)) q (by omega)
          cases e'
          refine ⟨g, 0, rfl, hb, fun c hc => ?_⟩
          rw [World.cell?_setCells_out _ _ _ _ _ (fun _ _ => .inl (by show 0 + q * 8 + c < i * 8; omega)), C c hc]
          have hqe : ml[q]'(by omega) = (zs.filter (kindK k))[q] := by
            have h1 : (ml.take i)[q]'(by rw [List.length_take]; omega) = ml[q]'(by omega) := by rw [List.getElem_take]
            rw [← h1]
            simp only [hend]
          rw [hqe])
        have Hcl := Lib.hid hcl
        have HB := Lib.hid hB
        have Hfl := Lib.hid hfl
        have q1 : (i : Int) ≤ (zs.length : Int) := by omega
        have q2 : (zs.length : Int) ≤ (cap : Int) := by omega
        have q3 : ¬ cap = i := by omega
        have q4 : i ≤ cap := by omega
        have q5 : i ≤ zs.length := by omega
        have q6 : (i : Int) ≤ (cap : Int) := by omega
        have hclz := hcl
        clear hS hown hend hfl hB hT hmlen hlen8 hlz hcl
        go_wp2_with fail
        go_ret
        exact ⟨some ⟨g, 0, none⟩, ⟨cap, by rw [Hfl.out]; rfl⟩, HRf.out.more (HF.out wr).size, HB.out.trans (HF.out wr)⟩

end Go.Proofs.YtkpaikampmeooaaGreatDoor
