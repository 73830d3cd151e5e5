/- Given names that are like others, in their order: the program's. -/
import Derived.Test.YtbkmfomdhjhkpaaGreatFollowS
namespace Go.Proofs.YtbkmfomdhjhkpaaGreat
open Go.RowKit Go.Shelf

attribute [local go_sem] Oper.semAt_some

theorem likeFit (u : Rul) (br : Nat) (a b : ByteArray) (w : World) (hb : Blk w br #[.int .i64 u.l, .int .i64 u.d, .int .i64 u.y, .int .i64 u.t] 23) (h1 : 0 < a.size ∧ a.size ≤ 20) (h2 : 0 < b.size ∧ b.size ≤ 20) (hn : 0 ≤ u.l) {v : Bool} (h : fitL u.l a b = v) :
    Calls Tryz.prog 81 #[.string a, .string b, .pointer (some ⟨br, 0, none⟩)] w fun e w' => e = .returned (.bool v) ∧ Below w.heap.size w w' := h ▸ likeClosure_any u br a b w hb h1 h2 hn

set_option maxRecDepth 100000 in
set_option maxHeartbeats 4000000 in
theorem followedL_in (n : Nat) (hn : 5 ≤ n) (r s : Rec) (A D A' D' : Option Addr) (c d c' d' m m' : Nat) (u : Rul) (br : Nat) (hu : 0 ≤ u.l) (w : World) (hbk : Blk w br #[.int .i64 u.l, .int .i64 u.d, .int .i64 u.y, .int .i64 u.t] 23) (hA : Strs w w.heap.size A r.names) (hA' : Strs w w.heap.size A' s.names) (pl : 0 < r.names.length) (pm : 0 < s.names.length) (hm : s.names.length ≤ 5) (hl5 : r.names.length ≤ 5) (hc : r.names.length ≤ c) (hc' : s.names.length ≤ c') (wl : Wordy r.names) (wm : Wordy s.names) :
    CallsIn Fence.wide n Tryz.prog 84 #[.agg #[.int .i64 r.id, .slice A r.names.length c, .int .u8 r.suf, .int .i64 r.lo, .int .i64 r.hi, .string r.num, .bool r.twin, .slice D r.stays.length d, .map (some m)], .agg #[.int .i64 s.id, .slice A' s.names.length c', .int .u8 s.suf, .int .i64 s.lo, .int .i64 s.hi, .string s.num, .bool s.twin, .slice D' s.stays.length d', .map (some m')], .func (.func 81) #[] #[.pointer (some ⟨br, 0, none⟩)]] w fun e w' => e = .returned (.bool (subs (fitL u.l) r.names.tail s.names.tail)) ∧ Below w.heap.size w w' := by
  have hsl := fun W => run_tail Tryz.underlying42 stringSize A r.names c pl W
  have h1 : 1 ≤ n := by omega
  have hb0 : Below w.heap.size w w := Below.refl _ _
  refine callsIn_of_wp_marks Tryz.func84 rfl trivial ?_ rfl
  simp only [Tryz.ntmps84, List.size_toArray, List.length_cons, List.length_nil, Nat.reduceAdd, Nat.reduceSub, Array.replicate_succ, Array.replicate_zero, List.push_toArray, List.append_toArray, List.nil_append, List.cons_append]
  gi_wp2_with (refine ⟨trivial, ?_⟩; gi_at_call 98; refine (given_in Fence.wide (n - 1) trivial trivial rfl (by omega) s A' D' c' d' m' _ pm).mono ?_; rintro e w' ⟨rfl, rfl⟩)
  have hbw : Below w.heap.size w ((((((w.alloc (.cells #[.int .i64 r.id, .slice A r.names.length c, .int .u8 r.suf, .int .i64 r.lo, .int .i64 r.hi, .string r.num, .bool r.twin, .slice D r.stays.length d, .map (some m)] 83)).alloc (.cells #[.int .i64 s.id, .slice A' s.names.length c', .int .u8 s.suf, .int .i64 s.lo, .int .i64 s.hi, .string s.num, .bool s.twin, .slice D' s.stays.length d', .map (some m')] 83)).alloc (.cells #[.func (.func 81) #[] #[.pointer (some ⟨br, 0, none⟩)]] 133)).alloc (.cells #[.slice (tailA A c) (r.names.length - 1) (c - 1)] 42)).alloc (.cells #[.int .i64 s.id, .slice A' s.names.length c', .int .u8 s.suf, .int .i64 s.lo, .int .i64 s.hi, .string s.num, .bool s.twin, .slice D' s.stays.length d', .map (some m')] 83)).alloc (.cells #[.slice (tailA A' c') (s.names.length - 1) (c' - 1)] 42)) :=
    ((((((Below.refl _ _).alloc (Nat.le_refl _) _).alloc (by simp) _).alloc (by simp; omega) _).alloc (by simp; omega) _).alloc (by simp; omega) _).alloc (by simp; omega) _
  have k2 := (((Blk.new ((w.alloc (.cells #[.int .i64 r.id, .slice A r.names.length c, .int .u8 r.suf, .int .i64 r.lo, .int .i64 r.hi, .string r.num, .bool r.twin, .slice D r.stays.length d, .map (some m)] 83)).alloc (.cells #[.int .i64 s.id, .slice A' s.names.length c', .int .u8 s.suf, .int .i64 s.lo, .int .i64 s.hi, .string s.num, .bool s.twin, .slice D' s.stays.length d', .map (some m')] 83)) #[.func (.func 81) #[] #[.pointer (some ⟨br, 0, none⟩)]] 133).alloc (.cells #[.slice (tailA A c) (r.names.length - 1) (c - 1)] 42)).alloc (.cells #[.int .i64 s.id, .slice A' s.names.length c', .int .u8 s.suf, .int .i64 s.lo, .int .i64 s.hi, .string s.num, .bool s.twin, .slice D' s.stays.length d', .map (some m')] 83)).alloc (.cells #[.slice (tailA A' c') (s.names.length - 1) (c' - 1)] 42)
  have k3 := ((Blk.new (((w.alloc (.cells #[.int .i64 r.id, .slice A r.names.length c, .int .u8 r.suf, .int .i64 r.lo, .int .i64 r.hi, .string r.num, .bool r.twin, .slice D r.stays.length d, .map (some m)] 83)).alloc (.cells #[.int .i64 s.id, .slice A' s.names.length c', .int .u8 s.suf, .int .i64 s.lo, .int .i64 s.hi, .string s.num, .bool s.twin, .slice D' s.stays.length d', .map (some m')] 83)).alloc (.cells #[.func (.func 81) #[] #[.pointer (some ⟨br, 0, none⟩)]] 133)) #[.slice (tailA A c) (r.names.length - 1) (c - 1)] 42).alloc (.cells #[.int .i64 s.id, .slice A' s.names.length c', .int .u8 s.suf, .int .i64 s.lo, .int .i64 s.hi, .string s.num, .bool s.twin, .slice D' s.stays.length d', .map (some m')] 83)).alloc (.cells #[.slice (tailA A' c') (s.names.length - 1) (c' - 1)] 42)
  have k5 := Blk.new (((((w.alloc (.cells #[.int .i64 r.id, .slice A r.names.length c, .int .u8 r.suf, .int .i64 r.lo, .int .i64 r.hi, .string r.num, .bool r.twin, .slice D r.stays.length d, .map (some m)] 83)).alloc (.cells #[.int .i64 s.id, .slice A' s.names.length c', .int .u8 s.suf, .int .i64 s.lo, .int .i64 s.hi, .string s.num, .bool s.twin, .slice D' s.stays.length d', .map (some m')] 83)).alloc (.cells #[.func (.func 81) #[] #[.pointer (some ⟨br, 0, none⟩)]] 133)).alloc (.cells #[.slice (tailA A c) (r.names.length - 1) (c - 1)] 42)).alloc (.cells #[.int .i64 s.id, .slice A' s.names.length c', .int .u8 s.suf, .int .i64 s.lo, .int .i64 s.hi, .string s.num, .bool s.twin, .slice D' s.stays.length d', .map (some m')] 83)) #[.slice (tailA A' c') (s.names.length - 1) (c' - 1)] 42
  simp only [World.size_alloc] at k2 k3 k5
  generalize hW : (((((w.alloc (.cells #[.int .i64 r.id, .slice A r.names.length c, .int .u8 r.suf, .int .i64 r.lo, .int .i64 r.hi, .string r.num, .bool r.twin, .slice D r.stays.length d, .map (some m)] 83)).alloc (.cells #[.int .i64 s.id, .slice A' s.names.length c', .int .u8 s.suf, .int .i64 s.lo, .int .i64 s.hi, .string s.num, .bool s.twin, .slice D' s.stays.length d', .map (some m')] 83)).alloc (.cells #[.func (.func 81) #[] #[.pointer (some ⟨br, 0, none⟩)]] 133)).alloc (.cells #[.slice (tailA A c) (r.names.length - 1) (c - 1)] 42)).alloc (.cells #[.int .i64 s.id, .slice A' s.names.length c', .int .u8 s.suf, .int .i64 s.lo, .int .i64 s.hi, .string s.num, .bool s.twin, .slice D' s.stays.length d', .map (some m')] 83)).alloc (.cells #[.slice (tailA A' c') (s.names.length - 1) (c' - 1)] 42) = W0 at *
  clear hW
  have hzl : (wds s.names.tail wm.tail).length = s.names.length - 1 := by rw [wds_length]; simp
  have hst : Strs W0 w.heap.size (tailA A' c') (texts (wds s.names.tail wm.tail)) := by rw [texts_wds]; exact (hA'.tail hc').below hbw
  have hsr : Strs W0 w.heap.size (tailA A c) r.names.tail := (hA.tail hc).below hbw
  refine wpIn_rangeFunc_ownF rfl h1 (gf := 130) (lb := #[.pointer (some ⟨w.heap.size + 1 + 1 + 1 + 1 + 1, 0, none⟩)]) rfl trivial (enters_of Tryz.func130 (by kernel_rfl) rfl)
    (values_stops Fence.wide (n - 1) trivial rfl (by omega) (w.heap.size + 1 + 1 + 1 + 1 + 1) w.heap.size (tailA A' c') (c' - 1) (wds s.names.tail wm.tail) (by rw [hzl]; omega) W0 k5.lt hbw.size (by rw [hzl]; exact k5.cell 0) hst) belowK_t (belowK_b hbw.size) (Below.refl _ _) (fun _ => rfl)
    (fun pre W => (∃ A1 c1, W.cell? ⟨w.heap.size + 1 + 1 + 1, 0, none⟩ = some (.slice A1 (leftOver (fitL u.l) r.names.tail (texts pre)).length c1) ∧ W.frozen? ⟨w.heap.size + 1 + 1 + 1, 0, none⟩ = false ∧ W.cell? ⟨w.heap.size + 1 + 1, 0, none⟩ = some (.func (.func 81) #[] #[.pointer (some ⟨br, 0, none⟩)]) ∧ (leftOver (fitL u.l) r.names.tail (texts pre)).length ≤ c1 ∧ Strs W w.heap.size A1 (leftOver (fitL u.l) r.names.tail (texts pre))) ∧ Below w.heap.size w W)
    (fun _ _ _ => False)
    (OwnFrom.and (Own.from (fun s A B row hs hg hr => by
      obtain ⟨A1, c1, h1, h2, h3, h4, h5⟩ := hs
      exact ⟨A1, c1, cell_kept h1 hg hr, (frozen_kept h1 hg hr).trans h2, cell_kept h3 hg hr, h4, fun k hk => by
        obtain ⟨b, off, e, hb, hcell, hs'⟩ := h5 k hk
        exact ⟨b, off, e, hb, cell_kept hcell hg hr, hs'⟩⟩) _) (ownFrom_below (Nat.le_refl _) hbw.size))
    (fun _ _ _ _ _ hs _ _ => hs)
    ⟨⟨tailA A c, c - 1, by show W0.cell? _ = some (.slice _ r.names.tail.length _); rw [List.length_tail]; exact k3.cell 0, k3.free 0, k2.cell 0, by show r.names.tail.length ≤ _; rw [List.length_tail]; omega, hsr⟩, hbw⟩
    (fun x => { tmps := #[.agg #[.int .i64 r.id, .slice A r.names.length c, .int .u8 r.suf, .int .i64 r.lo, .int .i64 r.hi, .string r.num, .bool r.twin, .slice D r.stays.length d, .map (some m)], .agg #[.int .i64 s.id, .slice A' s.names.length c', .int .u8 s.suf, .int .i64 s.lo, .int .i64 s.hi, .string s.num, .bool s.twin, .slice D' s.stays.length d', .map (some m')], .func (.func 81) #[] #[.pointer (some ⟨br, 0, none⟩)], .pointer (some ⟨w.heap.size, 0, none⟩), .pointer (some ⟨w.heap.size + 1, 0, none⟩), .pointer (some ⟨w.heap.size + 1 + 1, 0, none⟩), .bool false, .pointer (some ⟨w.heap.size + 1 + 1 + 1, 0, none⟩), .string x.1, .pointer (some ⟨w.heap.size, 0, none⟩), .pointer (some ⟨w.heap.size, 1, none⟩), .slice A r.names.length c, .slice (tailA A c) (r.names.length - 1) (c - 1), .agg #[.int .i64 s.id, .slice A' s.names.length c', .int .u8 s.suf, .int .i64 s.lo, .int .i64 s.hi, .string s.num, .bool s.twin, .slice D' s.stays.length d', .map (some m')], .func (.func 130) #[] #[.pointer (some ⟨w.heap.size + 1 + 1 + 1 + 1 + 1, 0, none⟩)], .string x.1, undef, undef, undef, undef, undef, undef, undef, undef, undef, undef, undef, undef, undef, undef, undef, undef], defers := [] }) ?assign ?body ?done ?stop
  case assign =>
    intro l x W K hK
    gi_wp2
    exact hK
  case body =>
    rintro l pre x W ⟨⟨A1, c1, hc1, hf1, hv1, hl1, hS1⟩, hB⟩ _
    have hnext := Lib.hid (show leftOver (fitL u.l) r.names.tail (texts (pre ++ [x])) = leftF (fitL u.l) (leftOver (fitL u.l) r.names.tail (texts pre)) x.1 by rw [show texts (pre ++ [x]) = texts pre ++ [x.1] by simp [texts], leftOver_snoc])
    have hwd := leftOver_wordy (fitL u.l) wl.tail (texts pre)
    have hbW0 := hbk.below hB hbk.lt
    have hbW : Blk W.drew br #[.int .i64 u.l, .int .i64 u.d, .int .i64 u.y, .int .i64 u.t] 23 := hbW0
    clear hbW0
    have hfn : ∀ f, Fence.wide.fn f := fun _ => trivial
    have hdep : Fence.wide.depth.isSome = false := rfl
    have hmx : Tryz.prog.follows .mixedOrders = true := by kernel_rfl
    generalize leftOver (fitL u.l) r.names.tail (texts pre) = rem at hc1 hl1 hS1 hwd hnext
    cases rem with
    | nil =>
      simp only [List.length_nil] at hc1
      gi_wp2
      gi_region_with_o (fail)
      all_goals gi_wp2
      all_goals exact ⟨KeepsOthers.drew W, (Below.refl _ W).drew, ⟨A1, c1, by rw [hnext.out]; exact hc1, hf1, hv1, by rw [hnext.out]; exact Nat.zero_le _, by rw [hnext.out]; intro k hk; cases hk⟩, hB.drew⟩
    | cons a rem =>
      have hpos : (0 : Int) < ((a :: rem).length : Int) := by simp
      have hS2 := hS1.tail hl1
      obtain ⟨b, off, rfl, hb, hcell, _⟩ := hS1 0 (by simp)
      have hwa := hwd a (by simp)
      rw [Nat.add_zero] at hcell
      have hsl2 := fun W => run_tail Tryz.underlying42 stringSize (some ⟨b, off, none⟩) (a :: rem) c1 (by simp) W
      simp only [List.length_cons, List.length_tail, Nat.add_sub_cancel] at hsl2 hc1 hpos
      have hlt3 : w.heap.size + 1 + 1 + 1 < W.drew.heap.size := World.block_lt_of_cell? W ⟨w.heap.size + 1 + 1 + 1, 0, none⟩ hc1
      have hlt2 : w.heap.size + 1 + 1 < W.drew.heap.size := World.block_lt_of_cell? W ⟨w.heap.size + 1 + 1, 0, none⟩ hv1
      generalize tailA (some ⟨b, off, none⟩) c1 = T at hsl2 hS2
      generalize hfit : (fitL u.l) a x.1 = v
      gi_wp2
      gi_region_with_o (gi_at_call 81; refine (CallsIn.inRound l (callsIn_wide.2 (likeFit u br _ _ _ hbW hwa x.2 hu hfit))).mono ?_; rintro e w2 ⟨rfl, hb2⟩; have hc2 := (hb2.cell (p := ⟨w.heap.size + 1 + 1 + 1, 0, none⟩) hlt3).trans hc1; have hf2 := (hb2.frozen (p := ⟨w.heap.size + 1 + 1 + 1, 0, none⟩) hlt3).trans hf1; have hv2 := (hb2.cell (p := ⟨w.heap.size + 1 + 1, 0, none⟩) hlt2).trans hv1)
      all_goals
        cases v with
        | true =>
          have hnx : leftF (fitL u.l) (a :: rem) x.1 = rem := by simp [leftF, hfit]
          gi_wp2
          have hw2 : Below w.heap.size W (w2.setCell ⟨w.heap.size + 1 + 1 + 1, 0, none⟩ (.slice T rem.length (c1 - 1))) := ((Below.refl _ W).drew.trans (hb2.mono (by omega))).setCell (p := ⟨w.heap.size + 1 + 1 + 1, 0, none⟩) (by simp; omega) _
          exact ⟨((KeepsOthers.drew W).trans (keepsOthers_below hb2)).trans (KeepsOthers.setCell _ _ _), hw2, ⟨T, c1 - 1, by rw [hnext.out, hnx]; exact World.cell?_setCell_same' _ _ _ (by rw [hc2]; rfl), by rw [World.frozen?_setCell]; exact hf2, (World.cell?_of_block (w := w2) (Below.heap_setCell _ _ _ _ (by simp))).trans hv2, by rw [hnext.out, hnx]; simp at hl1; omega, by rw [hnext.out, hnx]; exact hS2.below hw2⟩, hB.trans hw2⟩
        | false =>
          have hnx : leftF (fitL u.l) (a :: rem) x.1 = a :: rem := by simp [leftF, hfit]
          gi_wp2
          have hw2 : Below w.heap.size W w2 := (Below.refl _ W).drew.trans (hb2.mono (by omega))
          exact ⟨(KeepsOthers.drew W).trans (keepsOthers_below hb2), hw2, ⟨_, c1, by rw [hnext.out, hnx]; exact hc2, hf2, hv2, by rw [hnext.out, hnx]; exact hl1, by rw [hnext.out, hnx]; exact hS1.below hw2⟩, hB.trans hw2⟩
  case done =>
    rintro D' ys W hD rfl ⟨⟨A1, c1, hc1, hf1, hv1, hl1, hS1⟩, hB⟩ hK
    have hfin := Lib.hid (subs_left (fitL u.l) s.names.tail r.names.tail)
    rw [texts_wds] at hc1
    generalize leftOver (fitL u.l) r.names.tail s.names.tail = rem at hc1 hfin
    have hz : ((rem.length : Int) == 0) = rem.isEmpty := by cases rem <;> simp <;> omega
    gi_wp2
    refine ⟨by simp, .inl ⟨_, _, rfl, run_takeDeferred hK, ?_⟩⟩
    have hw0 := hbw.size
    exact ⟨_, results_tmp rfl _ _ _, by rw [hfin.out]; rfl, hB.trans (belowK_b (w := w) (Nat.le_refl _) W D' _ _ (by omega) hK rfl rfl)⟩
  case stop =>
    rintro D c pre W _ _ h _
    exact h.elim

end Go.Proofs.YtbkmfomdhjhkpaaGreat
