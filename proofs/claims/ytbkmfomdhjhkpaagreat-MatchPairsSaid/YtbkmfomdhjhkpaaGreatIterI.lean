/- Numbers put in order: the library's Values, AppendSeq, Collect, SortedFunc at numbers, and the program's inOrder. -/
import Derived.Test.YtbkmfomdhjhkpaaGreatInOrd
import Derived.Sort.OwnSorted
namespace Go.Proofs.YtbkmfomdhjhkpaaGreat
open Go.RowKit Go.Shelf

attribute [local go_sem] Oper.semAt_some

/-- The slice at A holds the numbers l, below block B. -/
def Ints (w : World) (B : Nat) (A : Option Addr) (l : List Int) : Prop :=
  ∀ k, (h : k < l.length) → ∃ b off, A = some ⟨b, off, none⟩ ∧ b < B ∧ w.cell? ⟨b, off + k, none⟩ = some (.int .i64 l[k])
theorem Ints.below {w w' : World} {B : Nat} {A : Option Addr} {l : List Int} (h : Ints w B A l) (hb : Below B w w') : Ints w' B A l := fun k hk => by
  obtain ⟨b, off, e, h1, h2⟩ := h k hk
  exact ⟨b, off, e, h1, (hb.cell (p := ⟨b, off + k, none⟩) h1).trans h2⟩
theorem Ints.more {w : World} {B B' : Nat} {A : Option Addr} {l : List Int} (h : Ints w B A l) (hB : B ≤ B') : Ints w B' A l := fun k hk => by
  obtain ⟨b, off, e, h1, h2⟩ := h k hk
  exact ⟨b, off, e, by omega, h2⟩
theorem Ints.later {w0 W : World} {A : Option Addr} {l : List Int} (h : Ints w0 w0.heap.size A l) (hb : Below w0.heap.size w0 W) : Ints W W.heap.size A l := (h.below hb).more hb.size
theorem Ints.of_own {w : World} {base : Nat} {A : Option Addr} {n c : Nat} {l : List Int} (h : w.ownsRow base 3 1 (.slice A n c) n (l.map (Value.int .i64))) : Ints w w.heap.size A l := by
  intro k hk
  have hn : n = l.length := by have := h.1; simp at this; omega
  obtain ⟨g, cap, hv, hb, hlt⟩ := h.form (by omega)
  injection hv with hA
  subst hA
  refine ⟨g, 0, rfl, hlt, ?_⟩
  rw [Nat.zero_add, h.cellAt k (by omega)]
  simp [hk]

abbrev encI (x : Int) : Array Value := #[.int .i64 x]

set_option maxRecDepth 100000 in
set_option maxHeartbeats 2000000 in
theorem valuesI1_in (F : Fence) (n : Nat) (h7 : F.fn 92) (hro : F.round = none) (hn : 1 ≤ n) (l Bs n₀ : Nat) (A : Option Addr) (cap : Nat) (zs : List Int) (hz : zs.length ≤ maxLen) (J Jx : List Int → World → Prop)
    (hY : ∀ pre x W, J pre W → pre.length < zs.length → YieldAt F (n - 1) Tryz.prog l (encI x) W fun e W' =>
      (e = .returned (.bool true) ∧ J (pre ++ [x]) W' ∧ Below n₀ W W') ∨ (e = .returned (.bool false) ∧ Jx (pre ++ [x]) W'))
    (W : World) (hc : W.cell? ⟨Bs, 0, none⟩ = some (.slice A zs.length cap)) (hS : Ints W n₀ A zs) (h0 : J [] W) :
    CallsIn F n Tryz.prog 92 #[.func (.yield l) #[] #[], .pointer (some ⟨Bs, 0, none⟩)] W fun e W' => (∃ v, e = .returned v) ∧
      ((∃ ys, ys = zs ∧ J ys W') ∨ (∃ pre, pre <+: zs ∧ Jx pre W')) := by
  unfold maxLen at hz
  refine callsIn_of_wp Tryz.func92 rfl h7 ?_ hro
  simp only [Tryz.ntmps92, List.size_toArray, List.length_cons, List.length_nil, Nat.reduceAdd, Nat.reduceSub, Array.replicate_succ, Array.replicate_zero, List.push_toArray, List.append_toArray, List.nil_append, List.cons_append]
  gi_wp2
  gi_loopw [7] (fun i wr => ∃ k : Nat, k ≤ zs.length ∧ i = .int .i64 k ∧ J (zs.take k) wr ∧ Below n₀ W wr)
    (fun i _ => zs.length - (intOf i).toNat)
  case atStart => exact ⟨0, Nat.zero_le _, rfl, h0, Below.refl _ _⟩
  case round =>
    obtain ⟨k, hk, rfl, hJs, hnx⟩ := hrel
    by_cases hlt : k < zs.length
    · have hil : (k : Int) < (zs.length : Int) := by omega
      obtain ⟨b, off, rfl, hb, hcell⟩ := (hS.below hnx) k hlt
      have hsnoc : zs.take (k + 1) = zs.take k ++ [zs[k]] := List.take_succ_eq_append_getElem hlt
      generalize zs[k] = x at hcell hsnoc
      obtain ⟨fn, tmps, assign, body, hy, hR⟩ := hY _ x wr hJs (by rw [List.length_take]; omega)
      dsimp only [encI] at hy
      gi_wp2
      refine hR.mono ?_
      rintro e W3 (⟨rfl, hJ3, hk3⟩ | ⟨rfl, hJx3⟩)
      · gi_wp2
        go_roundw
        case rel => exact ⟨k + 1, by omega, by go_num, by rw [hsnoc]; exact hJ3, hnx.trans hk3⟩
        case measure => simp [intOf]; omega
      · gi_wp2
        refine bodyPost_ret (results_none rfl _ _ _) rfl ?_
        exact ⟨⟨_, rfl⟩, .inr ⟨_, hsnoc ▸ List.take_prefix _ _, hJx3⟩⟩
    · have hil : ¬ (k : Int) < (zs.length : Int) := by omega
      have hall : zs.take k = zs := List.take_of_length_le (by omega)
      gi_wp2
      go_end0
      rw [hall] at hJs
      exact ⟨⟨_, rfl⟩, .inl hJs⟩

set_option maxHeartbeats 1000000 in
theorem valuesI_in (F : Fence) (n : Nat) (h5 : F.fn 68) (hro : F.round = none) (a : Option Addr) (len cap : Nat) (w : World) :
    CallsIn F n Tryz.prog 68 #[.slice a len cap] w fun e w' => e = .returned (.func (.func 92) #[] #[.pointer (some ⟨w.heap.size, 0, none⟩)]) ∧ w' = w.alloc (.cells #[.slice a len cap] 77) := by
  refine callsIn_of_wp Tryz.func68 rfl h5 ?_ hro
  simp only [Tryz.ntmps68, List.size_toArray, List.length_cons, List.length_nil, Nat.reduceAdd, Nat.reduceSub, Array.replicate_succ, Array.replicate_zero, List.push_toArray, List.append_toArray, List.nil_append, List.cons_append]
  gi_wp2
  go_ret
  exact ⟨rfl, rfl⟩

theorem valuesI_stops (F : Fence) (n : Nat) (h7 : F.fn 92) (hro : F.round = none) (hn : 1 ≤ n) (Bs n₀ : Nat) (A : Option Addr) (cap : Nat) (zs : List Int) (hz : zs.length ≤ maxLen) (w : World) (hBs : Bs < n₀) (hn₀ : n₀ ≤ w.heap.size)
    (hc : w.cell? ⟨Bs, 0, none⟩ = some (.slice A zs.length cap)) (hS : Ints w n₀ A zs) :
    SeqStopsK F n Tryz.prog 92 #[.pointer (some ⟨Bs, 0, none⟩)] encI (Below n₀) (fun ys => ys = zs) (fun pre => pre <+: zs) zs.length w := fun l J Jx W hW _ _ hY h0 =>
  valuesI1_in F n h7 hro hn l Bs n₀ A cap zs hz J Jx hY W ((hW.cell (p := ⟨Bs, 0, none⟩) (by show Bs < _; omega)).trans hc) (hS.below (hW.mono hn₀)) h0

set_option maxRecDepth 100000 in
set_option maxHeartbeats 4000000 in
/-- slices.AppendSeq(nil, slices.Values(zs)). -/
theorem appendSeqI_in (n : Nat) (hn : 3 ≤ n) (Bs n₀ : Nat) (A : Option Addr) (cap : Nat) (zs : List Int) (hz : zs.length ≤ 1000) (w : World) (hBs : Bs < n₀) (hn₀ : n₀ ≤ w.heap.size) (hc : w.cell? ⟨Bs, 0, none⟩ = some (.slice A zs.length cap)) (hS : Ints w n₀ A zs) :
    CallsIn Fence.wide n Tryz.prog 71 #[.slice none 0 0, .func (.func 92) #[] #[.pointer (some ⟨Bs, 0, none⟩)]] w fun e w' =>
      ∃ v, e = .returned v ∧ w'.ownsRow w.heap.size 3 1 v zs.length (zs.map (Value.int .i64)) ∧ Below w.heap.size w w' := by
  have h1 : 1 ≤ n := by omega
  obtain ⟨i0, hi, hz0, hz1, hz2⟩ := info_parts intInfo
  refine callsIn_of_wp_marks Tryz.func71 rfl trivial ?_ rfl
  simp only [Tryz.ntmps71, List.size_toArray, List.length_cons, List.length_nil, Nat.reduceAdd, Nat.reduceSub, Array.replicate_succ, Array.replicate_zero, List.push_toArray, List.append_toArray, List.nil_append, List.cons_append]
  gi_wp2
  have bO := Boxed.new w 77 (.slice none 0 0)
  have hB0 : Below w.heap.size w (w.alloc (.cells #[.slice none 0 0] 77)) := (Below.refl _ w).alloc (Nat.le_refl _) _
  have hsz : (w.alloc (.cells #[.slice none 0 0] 77)).heap.size = w.heap.size + 1 := by simp
  obtain ⟨W0, hW0⟩ : ∃ W0, w.alloc (.cells #[.slice none 0 0] 77) = W0 := ⟨_, rfl⟩
  rw [hW0] at bO hB0 hsz ⊢
  clear hW0
  have hcW := (hB0.cell (p := ⟨Bs, 0, none⟩) (by show Bs < _; omega)).trans hc
  refine wpIn_rangeFunc_ownG rfl h1 (gf := 92) (lb := #[.pointer (some ⟨Bs, 0, none⟩)]) rfl trivial (enters_of Tryz.func92 (by kernel_rfl) rfl)
    (valuesI_stops Fence.wide (n - 1) trivial rfl (by omega) Bs w.heap.size A cap zs (by unfold maxLen; omega) W0 (by omega) (by omega) hcW ((hS.more hn₀).below hB0)) belowK_t (belowK_b (by omega)) (Below.refl _ _) (fun _ => rfl)
    (fun pre W => (∃ v, Boxed W w.heap.size 77 v ∧ W.ownsRow w.heap.size 3 1 v pre.length (pre.map (Value.int .i64)) ∧ True) ∧ Below w.heap.size w W)
    (fun _ _ _ => False)
    (OwnFrom.and (Own.from (holdsRow_own w.heap.size w.heap.size 77 3 1 (fun pre : List Int => pre.length) (fun pre : List Int => pre.map (Value.int .i64)) (fun _ _ => True)) _) (ownFrom_below (Nat.le_refl _) (by omega)))
    (fun _ _ _ _ _ hs _ _ => hs)
    ⟨⟨_, bO, World.ownsRow_nil _ _ _ _, trivial⟩, hB0⟩
    (fun x => { tmps := #[.slice none 0 0, .func (.func 92) #[] #[.pointer (some ⟨Bs, 0, none⟩)], .pointer (some ⟨w.heap.size, 0, none⟩), undef, .slice none 0 0, .int .i64 x, .func (.func 92) #[] #[.pointer (some ⟨Bs, 0, none⟩)], .int .i64 x, undef, undef, undef, undef, undef], defers := [] }) ?assign ?body ?done ?stop
  case assign =>
    intro l x W K hK
    gi_wp2
    exact hK
  case body =>
    rintro l pre x W ⟨⟨v, hv, hrow, _⟩, hB⟩ hlt
    have hc := hv.cell
    gi_wp2_with (gi_at_builtin; refine wpListIn_append_own _ rfl _ _ 77 rfl w.heap.size 3 i0 (.int .i64 0) 1 8 Tryz.underlying77 hi hz0 hz1 hz2 rfl (by decide) _ _ _ rfl (hrow.alloc _) ⟨W.heap.size, 0, none⟩ 1 1 [.int .i64 x] rfl rfl (cell_one_new _ _ _) (by simp [Value.oneCell']) (by unfold maxLen; omega) (by omega) (by have := hB.size; simp; omega) ?_; intro v' w1 hown' hgrow _; obtain ⟨g', cap', rfl⟩ := ownsRow_succ hown'; obtain ⟨hv1, hv2, hr2, hk2, hb2⟩ := hv.appended (by decide) hrow hB.size (Nat.le_refl _) hown' hgrow; have hc1 := hv1.cell; have hf1 := hv1.frozen)
    exact ⟨hk2.from _, hb2, ⟨⟨_, hv2, by rw [List.map_append, List.length_append]; exact hr2, trivial⟩, hB.trans hb2⟩⟩
  case done =>
    rintro D ys W hD rfl ⟨⟨v, hv, hrow, _⟩, hB⟩ hK
    have hc := hv.cell
    gi_wp2
    refine ⟨by simp, .inl ⟨_, _, rfl, run_takeDeferred hK, ?_⟩⟩
    exact ⟨_, results_tmp rfl _ _ _, v, rfl, ownsRow_putObj hrow _ hK rfl, hB.trans (belowK_b (w := w) (Nat.le_refl _) W D _ _ (by omega) hK rfl rfl)⟩
  case stop =>
    rintro D c pre W _ _ h _
    exact h.elim

set_option maxHeartbeats 1000000 in
theorem collectI_any (Bs n₀ : Nat) (A : Option Addr) (cap : Nat) (zs : List Int) (hz : zs.length ≤ 1000) (w : World) (hBs : Bs < n₀) (hn₀ : n₀ ≤ w.heap.size) (hc : w.cell? ⟨Bs, 0, none⟩ = some (.slice A zs.length cap)) (hS : Ints w n₀ A zs) :
    Calls Tryz.prog 39 #[.func (.func 92) #[] #[.pointer (some ⟨Bs, 0, none⟩)]] w fun e w' =>
      ∃ v, e = .returned v ∧ w'.ownsRow w.heap.size 3 1 v zs.length (zs.map (Value.int .i64)) ∧ Below w.heap.size w w' := by
  have HA := Lib.hid (callsIn_wide.1 (appendSeqI_in 3 (Nat.le_refl _) Bs n₀ A cap zs hz w hBs hn₀ hc hS))
  clear hc hS
  go_enter Tryz.func39, Tryz.ntmps39
  go_wp2_with (go_at_call 71; with_reducible refine (HA.out).mono ?_; rintro e w' ⟨v, rfl, hown, hb⟩)
  go_ret
  exact ⟨v, rfl, hown, hb⟩

/-! The comparison, and the sort. -/
set_option maxHeartbeats 400000 in
theorem homesKey_any (x : Int) (W : World) : Calls Tryz.prog 41 #[.int .i64 x] W fun e w' => e = .returned (.int .i64 x) ∧ w' = W := by
  go_enter Tryz.func41, Tryz.ntmps41
  go_wp2
  go_ret
  exact ⟨rfl, rfl⟩

set_option maxRecDepth 100000 in
set_option maxHeartbeats 1000000 in
theorem intCmp_any (x y : Int) (kb : Nat) (W : World) (hk : W.cell? ⟨kb, 0, none⟩ = some (.func (.func 41) #[] #[])) (hkb : kb < W.heap.size) :
    Calls Tryz.prog 69 #[.int .i64 x, .int .i64 y, .pointer (some ⟨kb, 0, none⟩)] W fun e w' => e = .returned (.int .i64 (Lib.compareInt x y)) ∧ ∃ q os, w' = Sort.grow (W.drewN q) os := by
  have HX := Lib.hid (fun V => homesKey_any x V)
  have HY := Lib.hid (fun V => homesKey_any y V)
  have HC := Lib.hid (fun V => cmpInt_any x y V)
  generalize Lib.compareInt x y = res at HC ⊢
  have gk := Grown.cell hk hkb
  clear hk
  go_enter Tryz.func69, Tryz.ntmps69
  go_wp2_with fail
  refine wp_region_class_lit (C := fun w' => ∃ z : Grown W, w' = z.val) (by kernel_rfl) (by kernel_rfl) ⟨⟨_, Grown.drew W⟩, rfl⟩ ?_
  repeat (go_big_quiet_step ((first
    | (go_at_call 41; with_reducible exact grown_of _ ((HX.out _).mono fun _ _ ⟨h1, h2⟩ => ⟨h1, h2 ▸ Grown.zero _⟩))
    | (go_at_call 41; with_reducible exact grown_of _ ((HY.out _).mono fun _ _ ⟨h1, h2⟩ => ⟨h1, h2 ▸ Grown.zero _⟩))
    | (go_at_call 70; with_reducible exact grown_of _ ((HC.out _).mono fun _ _ ⟨h1, h2⟩ => ⟨h1, h2 ▸ Grown.zero _⟩)))))
  refine wpQuiet_nil ?_
  intro _ hw'
  obtain ⟨⟨wz, hz⟩, hw''⟩ := hw'
  dsimp only at hw''
  subst hw''
  go_wp2
  go_ret
  exact ⟨rfl, hz⟩

theorem ltOf_int (x y : Int) : ltOf (fun x y : Int => Lib.compareInt x y) x y = decide (x < y) := by
  unfold ltOf Lib.compareInt
  by_cases h1 : x < y
  · simp [h1]
  · by_cases h2 : y < x <;> simp [h1, h2]
theorem swo_int : Sort.SWO (ltOf fun x y : Int => Lib.compareInt x y) where
  irrefl x := by rw [ltOf_int]; simp
  trans x y z h1 h2 := by rw [ltOf_int] at *; simp at *; omega
  ntrans x y z h1 h2 := by rw [ltOf_int] at *; simp at *; omega

theorem sortFuncI_none (fv : Value) (W : World) : Calls Tryz.prog 91 #[.slice none 0 0, fv] W fun e w' => e = .returned (.tuple #[]) ∧ w' = W :=
  AnyF.slices_SortFunc_none { Tryz.sortInt with } none 0 fv W

theorem grownBy_sortI {α : Type} [Inhabited α] {enc : α → Value} {w : World} {g n : Nat} {os : Array Obj} (d : Array α) : w.grownBy (sortWorld enc w g 0 n d os) (some g) := by
  unfold sortWorld
  refine ⟨rfl, rfl, rfl, by simp, fun j hj hne => ?_⟩
  rw [Sort.heap_grow_old _ _ (by simpa using hj)]
  have : g ≠ j := fun e => hne (by rw [e])
  simp [Sort.putRow, Sort.mapBlock, Sort.ahead, Array.getElem?_modify, this]

theorem intCmp_lays (kb g n : Nat) (W : World) (hk : W.cell? ⟨kb, 0, none⟩ = some (.func (.func 41) #[] #[])) (hkb : kb < W.heap.size) (hne : kb ≠ g) :
    CmpLays1 Tryz.prog 69 #[.pointer (some ⟨kb, 0, none⟩)] (Value.int .i64) (fun x y => Lib.compareInt x y) g 0 n W := fun m os dk _ x y => by
  have hg : W.grownBy (sortWorld (Value.int .i64) W g 0 m dk os) (some g) := grownBy_sortI dk
  exact intCmp_any x y kb _ ((World.cell?_of_block (w := W) (hg.block kb hkb (fun e => hne (Option.some.inj e)))).trans hk) (Nat.lt_of_lt_of_le hkb hg.size)

theorem holds_of_ownI {w : World} {base g n c : Nat} {l : List Int} (h : w.ownsRow base 3 1 (.slice (some ⟨g, 0, none⟩) n c) n (l.map (Value.int .i64))) : Sort.Holds (Value.int .i64) w g 0 l.toArray := by
  have hn : n = l.length := by have := h.1; simp at this; omega
  subst hn
  intro t ht
  have ht' : t < l.length := by simpa using ht
  refine ⟨?_, by rw [Nat.zero_add]; exact h.frozenAt t⟩
  rw [Nat.zero_add, h.cellAt t (by omega)]
  simp [ht']

theorem sortFuncI_some (g kb cap : Nat) (zs : List Int) (W : World) (hk : W.cell? ⟨kb, 0, none⟩ = some (.func (.func 41) #[] #[])) (hkb : kb < W.heap.size) (hne : kb ≠ g) (hg : g < W.heap.size) (hH : Sort.Holds (Value.int .i64) W g 0 zs.toArray) (hz : zs.length ≤ 1000) :
    Calls Tryz.prog 91 #[.slice (some ⟨g, 0, none⟩) zs.length cap, .func (.func 69) #[] #[.pointer (some ⟨kb, 0, none⟩)]] W fun e w' =>
      e = .returned (.tuple #[]) ∧ Ints w' w'.heap.size (some ⟨g, 0, none⟩) (zs.mergeSort fun x y => decide (x ≤ y)) ∧ W.grownBy w' (some g) := by
  have h := Any.slices_SortFunc_total Tryz.sortInt (Value.int .i64) (fun _ => rfl) (fun x y => Lib.compareInt x y) swo_int 69 #[.pointer (some ⟨kb, 0, none⟩)] g 0 cap zs.toArray W
    (enters_of Tryz.func69 (by kernel_rfl) rfl) (intCmp_lays kb g _ W hk hkb hne) hH hg (by simp; omega) (fun x y h1 h2 => by rw [ltOf_int] at h1 h2; simp at h1 h2; omega)
  rw [List.size_toArray] at h
  refine h.mono fun e w' ⟨he, n, os, hw⟩ => ⟨he, ?_, ?_⟩
  · have hle : (fun x y : Int => !ltOf (fun x y : Int => Lib.compareInt x y) y x) = fun x y => decide (x ≤ y) := by
      funext x y
      rw [ltOf_int, Bool.eq_iff_iff]; simp
    have hl : (zs.toArray.toList.mergeSort fun x y => !ltOf (fun x y : Int => Lib.compareInt x y) y x) = zs.mergeSort fun x y => decide (x ≤ y) := by
      rw [List.toList_toArray, hle]
    rw [hl] at hw
    subst hw
    have hs : (zs.mergeSort fun x y => decide (x ≤ y)).length = zs.length := List.length_mergeSort _
    generalize zs.mergeSort (fun x y => decide (x ≤ y)) = ys at hs ⊢
    intro k hk
    refine ⟨g, 0, rfl, Nat.lt_of_lt_of_le hg (grownBy_sortI (enc := Value.int .i64) (w := W) (g := g) (n := n) (os := os) ys.toArray).size, ?_⟩
    have hH2 : Sort.Holds (Value.int .i64) (sortWorld (Value.int .i64) W g 0 n ys.toArray os) g 0 ys.toArray := by
      unfold sortWorld
      exact Sort.holds_grow _ _ _ _ _ _ (by simpa [Sort.putRow, Sort.mapBlock, Sort.ahead] using hg) (Sort.holds_putRow _ _ _ _ zs.toArray _ hH (by simp [hs]))
    have := (hH2 k (by simpa using hk)).1
    rw [this]
    simp [hk]
  · subst hw; exact grownBy_sortI _

set_option maxHeartbeats 1000000 in
theorem sortedI_any (Bs kb : Nat) (A : Option Addr) (cap : Nat) (zs : List Int) (hz : zs.length ≤ 1000) (w : World) (hBs : Bs < w.heap.size) (hc : w.cell? ⟨Bs, 0, none⟩ = some (.slice A zs.length cap)) (hS : Ints w w.heap.size A zs)
    (hk : w.cell? ⟨kb, 0, none⟩ = some (.func (.func 41) #[] #[])) (hkb : kb < w.heap.size) :
    Calls Tryz.prog 67 #[.func (.func 92) #[] #[.pointer (some ⟨Bs, 0, none⟩)], .func (.func 69) #[] #[.pointer (some ⟨kb, 0, none⟩)]] w fun e w' =>
      ∃ A' c', e = .returned (.slice A' zs.length c') ∧ Ints w' w'.heap.size A' (zs.mergeSort fun x y => decide (x ≤ y)) ∧ Below w.heap.size w w' := by
  have HC := Lib.hid (collectI_any Bs w.heap.size A cap zs hz w hBs (Nat.le_refl _) hc hS)
  clear hc hS
  go_enter Tryz.func67, Tryz.ntmps67
  go_wp2_with (go_at_call 39; with_reducible refine (HC.out).mono ?_; rintro e w1 ⟨v, rfl, hown, hb1⟩)
  have hk1 := (hb1.cell (p := ⟨kb, 0, none⟩) hkb).trans hk
  have hz1 := hb1.size
  rcases hown.2 with ⟨rfl, h0⟩ | ⟨g, cap1, cur, rfl, hbase, hb, h1, h2, h3, h4⟩
  · have hnil : zs = [] := List.eq_nil_of_length_eq_zero h0
    subst hnil
    have HS := Lib.hid (sortFuncI_none (.func (.func 69) #[] #[.pointer (some ⟨kb, 0, none⟩)]) w1)
    clear hown hk1
    go_wp2_with (go_at_call 91; with_reducible refine (HS.out).mono ?_; rintro e w2 ⟨rfl, rfl⟩)
    go_ret
    exact ⟨none, 0, rfl, fun k hk => by simp at hk, hb1⟩
  · have hg : g < w1.heap.size := (Array.getElem?_eq_some_iff.1 hb).1
    have HS := Lib.hid (sortFuncI_some g kb cap1 zs w1 hk1 (by omega) (by omega) hg (holds_of_ownI hown) hz)
    clear hown hk1 hb h4 h3
    go_wp2_with (go_at_call 91; with_reducible refine (HS.out).mono ?_; rintro e w2 ⟨rfl, hP, hg2⟩)
    go_ret
    exact ⟨some ⟨g, 0, none⟩, cap1, rfl, hP, hb1.grown hg2 hz1 (fun k e => by cases e; exact hbase)⟩

set_option maxHeartbeats 1000000 in
theorem inOrderI_any (A : Option Addr) (cap : Nat) (zs : List Int) (hz : zs.length ≤ 1000) (w : World) (hS : Ints w w.heap.size A zs) :
    Calls Tryz.prog 38 #[.slice A zs.length cap, .func (.func 41) #[] #[]] w fun e w' =>
      ∃ A' c', e = .returned (.slice A' zs.length c') ∧ Ints w' w'.heap.size A' (zs.mergeSort fun x y => decide (x ≤ y)) ∧ Below w.heap.size w w' := by
  have hb2 : Below w.heap.size w ((w.alloc (.cells #[.func (.func 41) #[] #[]] 95)).alloc (.cells #[.slice A zs.length cap] 77)) := ((Below.refl _ _).alloc (Nat.le_refl _) _).alloc (by simp) _
  have k0 := (Blk.new w #[.func (.func 41) #[] #[]] 95).alloc (.cells #[.slice A zs.length cap] 77)
  have k1 := Blk.new (w.alloc (.cells #[.func (.func 41) #[] #[]] 95)) #[.slice A zs.length cap] 77
  rw [World.size_alloc] at k1
  have HV := Lib.hid (fun W => callsIn_wide.1 (valuesI_in Fence.wide 1 trivial rfl A zs.length cap W))
  have HS := Lib.hid (sortedI_any (w.heap.size + 1) w.heap.size A cap zs hz _ k1.lt (k1.cell 0) (hS.later hb2) (k0.cell 0) k0.lt)
  clear hS
  go_enter Tryz.func38, Tryz.ntmps38
  go_wp2_with (first
    | (go_at_call 68; with_reducible refine (HV.out _).mono ?_; rintro e w1 ⟨rfl, rfl⟩)
    | (go_at_call 67; with_reducible refine (HS.out).mono ?_; rintro e w2 ⟨A', c', rfl, hP, hb3⟩))
  go_ret
  exact ⟨A', c', rfl, hP, hb2.trans (hb3.mono hb2.size)⟩

end Go.Proofs.YtbkmfomdhjhkpaaGreat
