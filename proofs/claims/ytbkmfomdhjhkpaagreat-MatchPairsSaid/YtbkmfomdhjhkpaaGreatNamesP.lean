/- How names agree: the program's. -/
import Derived.Test.YtbkmfomdhjhkpaaGreatFollowL
namespace Go.Proofs.YtbkmfomdhjhkpaaGreat
open Go.RowKit Go.Shelf

theorem followedS_any (r s : Rec) (A D A' D' : Option Addr) (c d c' d' m m' : Nat) (w : World) (hA : Strs w w.heap.size A r.names) (hA' : Strs w w.heap.size A' s.names) (pl : 0 < r.names.length) (pm : 0 < s.names.length) (hm : s.names.length ≤ 5) (hl5 : r.names.length ≤ 5) (hc : r.names.length ≤ c) (hc' : s.names.length ≤ c') (wl : Wordy r.names) (wm : Wordy s.names) :
    Calls Tryz.prog 84 #[.agg #[.int .i64 r.id, .slice A r.names.length c, .int .u8 r.suf, .int .i64 r.lo, .int .i64 r.hi, .string r.num, .bool r.twin, .slice D r.stays.length d, .map (some m)], .agg #[.int .i64 s.id, .slice A' s.names.length c', .int .u8 s.suf, .int .i64 s.lo, .int .i64 s.hi, .string s.num, .bool s.twin, .slice D' s.stays.length d', .map (some m')], .func (.func 85) #[] #[]] w fun e w' => e = .returned (.bool (subs (fitL (-1)) r.names.tail s.names.tail)) ∧ Below w.heap.size w w' :=
  (callsIn_wide (n := 5)).1 (followedS_in 5 (Nat.le_refl _) r s A D A' D' c d c' d' m m' w hA hA' pl pm hm hl5 hc hc' wl wm)
theorem followedL_any (r s : Rec) (A D A' D' : Option Addr) (c d c' d' m m' : Nat) (u : Rul) (br : Nat) (hu : 0 ≤ u.l) (w : World) (hbk : Blk w br #[.int .i64 u.l, .int .i64 u.d, .int .i64 u.y, .int .i64 u.t] 23) (hA : Strs w w.heap.size A r.names) (hA' : Strs w w.heap.size A' s.names) (pl : 0 < r.names.length) (pm : 0 < s.names.length) (hm : s.names.length ≤ 5) (hl5 : r.names.length ≤ 5) (hc : r.names.length ≤ c) (hc' : s.names.length ≤ c') (wl : Wordy r.names) (wm : Wordy s.names) :
    Calls Tryz.prog 84 #[.agg #[.int .i64 r.id, .slice A r.names.length c, .int .u8 r.suf, .int .i64 r.lo, .int .i64 r.hi, .string r.num, .bool r.twin, .slice D r.stays.length d, .map (some m)], .agg #[.int .i64 s.id, .slice A' s.names.length c', .int .u8 s.suf, .int .i64 s.lo, .int .i64 s.hi, .string s.num, .bool s.twin, .slice D' s.stays.length d', .map (some m')], .func (.func 81) #[] #[.pointer (some ⟨br, 0, none⟩)]] w fun e w' => e = .returned (.bool (subs (fitL u.l) r.names.tail s.names.tail)) ∧ Below w.heap.size w w' :=
  (callsIn_wide (n := 5)).1 (followedL_in 5 (Nat.le_refl _) r s A D A' D' c d c' d' m m' u br hu w hbk hA hA' pl pm hm hl5 hc hc' wl wm)

set_option maxHeartbeats 400000 in
theorem family_any (r : Rec) (b off : Nat) (D : Option Addr) (c d m : Nat) (x : ByteArray) (w : World) (hx : w.cell? ⟨b, off, none⟩ = some (.string x)) (h0 : 0 < r.names.length) :
    Calls Tryz.prog 83 #[.agg #[.int .i64 r.id, .slice (some ⟨b, off, none⟩) r.names.length c, .int .u8 r.suf, .int .i64 r.lo, .int .i64 r.hi, .string r.num, .bool r.twin, .slice D r.stays.length d, .map (some m)]] w fun e w' => e = .returned (.string x) ∧ Below w.heap.size w w' := by
  have hp : (0 : Int) < (r.names.length : Int) := by omega
  have hb : b < w.heap.size := World.block_lt_of_cell? w ⟨b, off, none⟩ hx
  have hx' := (((Below.refl w.heap.size w).alloc (Nat.le_refl _) (.cells #[.int .i64 r.id, .slice (some ⟨b, off, none⟩) r.names.length c, .int .u8 r.suf, .int .i64 r.lo, .int .i64 r.hi, .string r.num, .bool r.twin, .slice D r.stays.length d, .map (some m)] 83)).cell (p := ⟨b, off, none⟩) hb).trans hx
  go_enter Tryz.func83, Tryz.ntmps83
  go_wp2
  go_ret
  exact ⟨rfl, (Below.refl _ _).alloc (Nat.le_refl _) _⟩

set_option maxRecDepth 100000 in
set_option maxHeartbeats 8000000 in
theorem namesAgree_plain (u : Rul) (r s : Rec) (A D A' D' : Option Addr) (c d c' d' m m' : Nat) (w : World) (hu : 0 ≤ u.l) (hA : Strs w w.heap.size A r.names) (hA' : Strs w w.heap.size A' s.names) (pl : 0 < r.names.length) (pm : 0 < s.names.length) (hl5 : r.names.length ≤ 5) (hm5 : s.names.length ≤ 5) (hc : r.names.length ≤ c) (hc' : s.names.length ≤ c') (wl : Wordy r.names) (wm : Wordy s.names) (hlen : ¬ s.names.length < r.names.length) :
    Calls Tryz.prog 57 #[.agg #[.int .i64 u.l, .int .i64 u.d, .int .i64 u.y, .int .i64 u.t], .agg #[.int .i64 r.id, .slice A r.names.length c, .int .u8 r.suf, .int .i64 r.lo, .int .i64 r.hi, .string r.num, .bool r.twin, .slice D r.stays.length d, .map (some m)], .agg #[.int .i64 s.id, .slice A' s.names.length c', .int .u8 s.suf, .int .i64 s.lo, .int .i64 s.hi, .string s.num, .bool s.twin, .slice D' s.stays.length d', .map (some m')]] w fun e w' => e = .returned (.int .u8 (namesF u.l r.names s.names)) ∧ Below w.heap.size w w' := by
  have hleni : ¬ (s.names.length : Int) < (r.names.length : Int) := by omega
  rw [namesF_B u.l r.names s.names pl pm]
  obtain ⟨bp, op, rfl, hbp, hx, _⟩ := hA 0 pl
  obtain ⟨bq, oq, rfl, hbq, hy, _⟩ := hA' 0 pm
  rw [Nat.add_zero] at hx hy
  have wx := wl.at pl
  have wy := wm.at pm
  generalize hxx : r.names[0] = x at hx wx ⊢
  generalize hyy : s.names[0] = y at hy wy ⊢
  obtain ⟨s1, hs1⟩ : ∃ b, subs (fitL (-1)) r.names.tail s.names.tail = b := ⟨_, rfl⟩
  obtain ⟨s2, hs2⟩ : ∃ b, subs (fitL u.l) r.names.tail s.names.tail = b := ⟨_, rfl⟩
  obtain ⟨v, hv0⟩ : ∃ b, (lev x.data.toList y.data.toList : Int) = b := ⟨_, rfl⟩
  rw [hs1, hs2, hv0]
  go_enter Tryz.func57, Tryz.ntmps57
  go_upto_region 3 with fail
  have k0 := ((Blk.new w #[.int .i64 u.l, .int .i64 u.d, .int .i64 u.y, .int .i64 u.t] 23).alloc (.cells #[.int .i64 r.id, .slice (some ⟨bp, op, none⟩) r.names.length c, .int .u8 r.suf, .int .i64 r.lo, .int .i64 r.hi, .string r.num, .bool r.twin, .slice D r.stays.length d, .map (some m)] 83)).alloc (.cells #[.int .i64 s.id, .slice (some ⟨bq, oq, none⟩) s.names.length c', .int .u8 s.suf, .int .i64 s.lo, .int .i64 s.hi, .string s.num, .bool s.twin, .slice D' s.stays.length d', .map (some m')] 83)
  have k1 := (Blk.new (w.alloc (.cells #[.int .i64 u.l, .int .i64 u.d, .int .i64 u.y, .int .i64 u.t] 23)) #[.int .i64 r.id, .slice (some ⟨bp, op, none⟩) r.names.length c, .int .u8 r.suf, .int .i64 r.lo, .int .i64 r.hi, .string r.num, .bool r.twin, .slice D r.stays.length d, .map (some m)] 83).alloc (.cells #[.int .i64 s.id, .slice (some ⟨bq, oq, none⟩) s.names.length c', .int .u8 s.suf, .int .i64 s.lo, .int .i64 s.hi, .string s.num, .bool s.twin, .slice D' s.stays.length d', .map (some m')] 83)
  have k2 := Blk.new ((w.alloc (.cells #[.int .i64 u.l, .int .i64 u.d, .int .i64 u.y, .int .i64 u.t] 23)).alloc (.cells #[.int .i64 r.id, .slice (some ⟨bp, op, none⟩) r.names.length c, .int .u8 r.suf, .int .i64 r.lo, .int .i64 r.hi, .string r.num, .bool r.twin, .slice D r.stays.length d, .map (some m)] 83)) #[.int .i64 s.id, .slice (some ⟨bq, oq, none⟩) s.names.length c', .int .u8 s.suf, .int .i64 s.lo, .int .i64 s.hi, .string s.num, .bool s.twin, .slice D' s.stays.length d', .map (some m')] 83
  simp only [World.size_alloc] at k1 k2
  have hbw : Below w.heap.size w (((w.alloc (.cells #[.int .i64 u.l, .int .i64 u.d, .int .i64 u.y, .int .i64 u.t] 23)).alloc (.cells #[.int .i64 r.id, .slice (some ⟨bp, op, none⟩) r.names.length c, .int .u8 r.suf, .int .i64 r.lo, .int .i64 r.hi, .string r.num, .bool r.twin, .slice D r.stays.length d, .map (some m)] 83)).alloc (.cells #[.int .i64 s.id, .slice (some ⟨bq, oq, none⟩) s.names.length c', .int .u8 s.suf, .int .i64 s.lo, .int .i64 s.hi, .string s.num, .bool s.twin, .slice D' s.stays.length d', .map (some m')] 83)) := (((Below.refl _ _).alloc (Nat.le_refl _) _).alloc (by simp) _).alloc (by simp; omega) _
  generalize ((w.alloc (.cells #[.int .i64 u.l, .int .i64 u.d, .int .i64 u.y, .int .i64 u.t] 23)).alloc (.cells #[.int .i64 r.id, .slice (some ⟨bp, op, none⟩) r.names.length c, .int .u8 r.suf, .int .i64 r.lo, .int .i64 r.hi, .string r.num, .bool r.twin, .slice D r.stays.length d, .map (some m)] 83)).alloc (.cells #[.int .i64 s.id, .slice (some ⟨bq, oq, none⟩) s.names.length c', .int .u8 s.suf, .int .i64 s.lo, .int .i64 s.hi, .string s.num, .bool s.twin, .slice D' s.stays.length d', .map (some m')] 83) = W1 at *
  have tp := (hA.below hbw).more hbw.size
  have tq := (hA'.below hbw).more hbw.size
  have hx1 := (hbw.cell (p := ⟨bp, op, none⟩) hbp).trans hx
  have hy1 := (hbw.cell (p := ⟨bq, oq, none⟩) hbq).trans hy
  have lx1 : bp < W1.heap.size := Nat.lt_of_lt_of_le hbp hbw.size
  have ly1 : bq < W1.heap.size := Nat.lt_of_lt_of_le hbq hbw.size
  have HF1 := Lib.hid (fun (X : After W1.heap.size W1) => family_any r bp op D c d m x X.val (After.cell hx1 lx1 X) pl)
  have HF2 := Lib.hid (fun (X : After W1.heap.size W1) => family_any s bq oq D' c' d' m' y X.val (After.cell hy1 ly1 X) pm)
  have HS := Lib.hid (fun (X : After W1.heap.size W1) => hs1 ▸ followedS_any r s (some ⟨bp, op, none⟩) D (some ⟨bq, oq, none⟩) D' c d c' d' m m' X.val (tp.after (Nat.le_refl _) X) (tq.after (Nat.le_refl _) X) pl pm hm5 hl5 hc hc' wl wm)
  have HL := Lib.hid (fun (X : After W1.heap.size W1) => hs2 ▸ followedL_any r s (some ⟨bp, op, none⟩) D (some ⟨bq, oq, none⟩) D' c d c' d' m m' u w.heap.size hu X.val (k0.below X.property k0.lt) (tp.after (Nat.le_refl _) X) (tq.after (Nat.le_refl _) X) pl pm hm5 hl5 hc hc' wl wm)
  have Hed := Lib.hid (fun W => hv0 ▸ edits_any x y W wx.2 wy.2)
  have cu := After.cells (B := W1.heap.size) k0.cell k0.lt
  have ca := After.cells (B := W1.heap.size) k1.cell k1.lt
  have cb := After.cells (B := W1.heap.size) k2.cell k2.lt
  clear hs1 hs2 hv0 hA hA' hx hy tp tq wx wy hx1 hy1 k0 k1 k2 wl wm
  cases hE : (x.toList == y.toList) with
  | true =>
    cases s1 with
    | true =>
      go_wp2_with fail
      refine Go.Proofs.YtbkmfomdhjhkpaaGreat.wp_region_class_lit (C := fun w' => ∃ x : After W1.heap.size W1, w' = x.val) (by kernel_rfl) (by kernel_rfl) ⟨⟨_, (Below.refl _ _).drew⟩, rfl⟩ ?_
      repeat (go_big_quiet_step ((first
        | (go_at_call 83; first | with_reducible exact after_of (Nat.le_refl _) _ (HF1.out _) | with_reducible exact after_of (Nat.le_refl _) _ (HF2.out _))
        | (go_at_call 84; first | with_reducible exact after_of (Nat.le_refl _) _ (HS.out _) | with_reducible exact after_of (Nat.le_refl _) _ (HL.out _))
        | (go_at_call 53; with_reducible exact after_of (Nat.le_refl _) _ (Hed.out _)))))
      refine wpQuiet_nil ?_
      intro wz hw'
      obtain ⟨⟨wq, hz⟩, hw''⟩ := hw'
      dsimp only at hw''
      subst hw''
      clear cu ca cb HF1 HF2 HS HL Hed
      go_wp2
      go_ret
      exact ⟨ret_int (by simp only [namesV, hE]; rfl), hbw.trans (hz.mono hbw.size)⟩
    | false =>
      cases hv : decide (v ≤ u.l) with
      | true =>
        cases s2 with
        | true =>
          go_wp2_with fail
          refine Go.Proofs.YtbkmfomdhjhkpaaGreat.wp_region_class_lit (C := fun w' => ∃ x : After W1.heap.size W1, w' = x.val) (by kernel_rfl) (by kernel_rfl) ⟨⟨_, (Below.refl _ _).drew⟩, rfl⟩ ?_
          repeat (go_big_quiet_step ((first
            | (go_at_call 83; first | with_reducible exact after_of (Nat.le_refl _) _ (HF1.out _) | with_reducible exact after_of (Nat.le_refl _) _ (HF2.out _))
            | (go_at_call 84; first | with_reducible exact after_of (Nat.le_refl _) _ (HS.out _) | with_reducible exact after_of (Nat.le_refl _) _ (HL.out _))
            | (go_at_call 53; with_reducible exact after_of (Nat.le_refl _) _ (Hed.out _)))))
          refine wpQuiet_nil ?_
          intro wz hw'
          obtain ⟨⟨wq, hz⟩, hw''⟩ := hw'
          dsimp only at hw''
          subst hw''
          go_wp2_with fail
          refine Go.Proofs.YtbkmfomdhjhkpaaGreat.wp_region_class_lit (C := fun w' => ∃ x : After W1.heap.size W1, w' = x.val) (by kernel_rfl) (by kernel_rfl) ⟨⟨_, hz.drew⟩, rfl⟩ ?_
          repeat (go_big_quiet_step ((first
            | (go_at_call 83; first | with_reducible exact after_of (Nat.le_refl _) _ (HF1.out _) | with_reducible exact after_of (Nat.le_refl _) _ (HF2.out _))
            | (go_at_call 84; first | with_reducible exact after_of (Nat.le_refl _) _ (HS.out _) | with_reducible exact after_of (Nat.le_refl _) _ (HL.out _))
            | (go_at_call 53; with_reducible exact after_of (Nat.le_refl _) _ (Hed.out _)))))
          refine wpQuiet_nil ?_
          intro wz hw'
          obtain ⟨⟨wq, hz⟩, hw''⟩ := hw'
          dsimp only at hw''
          subst hw''
          clear cu ca cb HF1 HF2 HS HL Hed
          go_wp2
          go_ret
          exact ⟨ret_int (by simp only [namesV, hE, hv]; rfl), hbw.trans (hz.mono hbw.size)⟩
        | false =>
          go_wp2_with fail
          refine Go.Proofs.YtbkmfomdhjhkpaaGreat.wp_region_class_lit (C := fun w' => ∃ x : After W1.heap.size W1, w' = x.val) (by kernel_rfl) (by kernel_rfl) ⟨⟨_, (Below.refl _ _).drew⟩, rfl⟩ ?_
          repeat (go_big_quiet_step ((first
            | (go_at_call 83; first | with_reducible exact after_of (Nat.le_refl _) _ (HF1.out _) | with_reducible exact after_of (Nat.le_refl _) _ (HF2.out _))
            | (go_at_call 84; first | with_reducible exact after_of (Nat.le_refl _) _ (HS.out _) | with_reducible exact after_of (Nat.le_refl _) _ (HL.out _))
            | (go_at_call 53; with_reducible exact after_of (Nat.le_refl _) _ (Hed.out _)))))
          refine wpQuiet_nil ?_
          intro wz hw'
          obtain ⟨⟨wq, hz⟩, hw''⟩ := hw'
          dsimp only at hw''
          subst hw''
          go_wp2_with fail
          refine Go.Proofs.YtbkmfomdhjhkpaaGreat.wp_region_class_lit (C := fun w' => ∃ x : After W1.heap.size W1, w' = x.val) (by kernel_rfl) (by kernel_rfl) ⟨⟨_, hz.drew⟩, rfl⟩ ?_
          repeat (go_big_quiet_step ((first
            | (go_at_call 83; first | with_reducible exact after_of (Nat.le_refl _) _ (HF1.out _) | with_reducible exact after_of (Nat.le_refl _) _ (HF2.out _))
            | (go_at_call 84; first | with_reducible exact after_of (Nat.le_refl _) _ (HS.out _) | with_reducible exact after_of (Nat.le_refl _) _ (HL.out _))
            | (go_at_call 53; with_reducible exact after_of (Nat.le_refl _) _ (Hed.out _)))))
          refine wpQuiet_nil ?_
          intro wz hw'
          obtain ⟨⟨wq, hz⟩, hw''⟩ := hw'
          dsimp only at hw''
          subst hw''
          clear cu ca cb HF1 HF2 HS HL Hed
          go_wp2
          go_ret
          exact ⟨ret_int (by simp only [namesV, hE, hv]; rfl), hbw.trans (hz.mono hbw.size)⟩
      | false =>
        go_wp2_with fail
        refine Go.Proofs.YtbkmfomdhjhkpaaGreat.wp_region_class_lit (C := fun w' => ∃ x : After W1.heap.size W1, w' = x.val) (by kernel_rfl) (by kernel_rfl) ⟨⟨_, (Below.refl _ _).drew⟩, rfl⟩ ?_
        repeat (go_big_quiet_step ((first
          | (go_at_call 83; first | with_reducible exact after_of (Nat.le_refl _) _ (HF1.out _) | with_reducible exact after_of (Nat.le_refl _) _ (HF2.out _))
          | (go_at_call 84; first | with_reducible exact after_of (Nat.le_refl _) _ (HS.out _) | with_reducible exact after_of (Nat.le_refl _) _ (HL.out _))
          | (go_at_call 53; with_reducible exact after_of (Nat.le_refl _) _ (Hed.out _)))))
        refine wpQuiet_nil ?_
        intro wz hw'
        obtain ⟨⟨wq, hz⟩, hw''⟩ := hw'
        dsimp only at hw''
        subst hw''
        go_wp2_with fail
        refine Go.Proofs.YtbkmfomdhjhkpaaGreat.wp_region_class_lit (C := fun w' => ∃ x : After W1.heap.size W1, w' = x.val) (by kernel_rfl) (by kernel_rfl) ⟨⟨_, hz.drew⟩, rfl⟩ ?_
        repeat (go_big_quiet_step ((first
          | (go_at_call 83; first | with_reducible exact after_of (Nat.le_refl _) _ (HF1.out _) | with_reducible exact after_of (Nat.le_refl _) _ (HF2.out _))
          | (go_at_call 84; first | with_reducible exact after_of (Nat.le_refl _) _ (HS.out _) | with_reducible exact after_of (Nat.le_refl _) _ (HL.out _))
          | (go_at_call 53; with_reducible exact after_of (Nat.le_refl _) _ (Hed.out _)))))
        refine wpQuiet_nil ?_
        intro wz hw'
        obtain ⟨⟨wq, hz⟩, hw''⟩ := hw'
        dsimp only at hw''
        subst hw''
        clear cu ca cb HF1 HF2 HS HL Hed
        go_wp2
        go_ret
        exact ⟨ret_int (by simp only [namesV, hE, hv]; rfl), hbw.trans (hz.mono hbw.size)⟩
  | false =>
    cases hv : decide (v ≤ u.l) with
    | true =>
      cases s2 with
      | true =>
        go_wp2_with fail
        refine Go.Proofs.YtbkmfomdhjhkpaaGreat.wp_region_class_lit (C := fun w' => ∃ x : After W1.heap.size W1, w' = x.val) (by kernel_rfl) (by kernel_rfl) ⟨⟨_, (Below.refl _ _).drew⟩, rfl⟩ ?_
        repeat (go_big_quiet_step ((first
          | (go_at_call 83; first | with_reducible exact after_of (Nat.le_refl _) _ (HF1.out _) | with_reducible exact after_of (Nat.le_refl _) _ (HF2.out _))
          | (go_at_call 84; first | with_reducible exact after_of (Nat.le_refl _) _ (HS.out _) | with_reducible exact after_of (Nat.le_refl _) _ (HL.out _))
          | (go_at_call 53; with_reducible exact after_of (Nat.le_refl _) _ (Hed.out _)))))
        refine wpQuiet_nil ?_
        intro wz hw'
        obtain ⟨⟨wq, hz⟩, hw''⟩ := hw'
        dsimp only at hw''
        subst hw''
        go_wp2_with fail
        refine Go.Proofs.YtbkmfomdhjhkpaaGreat.wp_region_class_lit (C := fun w' => ∃ x : After W1.heap.size W1, w' = x.val) (by kernel_rfl) (by kernel_rfl) ⟨⟨_, hz.drew⟩, rfl⟩ ?_
        repeat (go_big_quiet_step ((first
          | (go_at_call 83; first | with_reducible exact after_of (Nat.le_refl _) _ (HF1.out _) | with_reducible exact after_of (Nat.le_refl _) _ (HF2.out _))
          | (go_at_call 84; first | with_reducible exact after_of (Nat.le_refl _) _ (HS.out _) | with_reducible exact after_of (Nat.le_refl _) _ (HL.out _))
          | (go_at_call 53; with_reducible exact after_of (Nat.le_refl _) _ (Hed.out _)))))
        refine wpQuiet_nil ?_
        intro wz hw'
        obtain ⟨⟨wq, hz⟩, hw''⟩ := hw'
        dsimp only at hw''
        subst hw''
        clear cu ca cb HF1 HF2 HS HL Hed
        go_wp2
        go_ret
        exact ⟨ret_int (by simp only [namesV, hE, hv]; rfl), hbw.trans (hz.mono hbw.size)⟩
      | false =>
        go_wp2_with fail
        refine Go.Proofs.YtbkmfomdhjhkpaaGreat.wp_region_class_lit (C := fun w' => ∃ x : After W1.heap.size W1, w' = x.val) (by kernel_rfl) (by kernel_rfl) ⟨⟨_, (Below.refl _ _).drew⟩, rfl⟩ ?_
        repeat (go_big_quiet_step ((first
          | (go_at_call 83; first | with_reducible exact after_of (Nat.le_refl _) _ (HF1.out _) | with_reducible exact after_of (Nat.le_refl _) _ (HF2.out _))
          | (go_at_call 84; first | with_reducible exact after_of (Nat.le_refl _) _ (HS.out _) | with_reducible exact after_of (Nat.le_refl _) _ (HL.out _))
          | (go_at_call 53; with_reducible exact after_of (Nat.le_refl _) _ (Hed.out _)))))
        refine wpQuiet_nil ?_
        intro wz hw'
        obtain ⟨⟨wq, hz⟩, hw''⟩ := hw'
        dsimp only at hw''
        subst hw''
        go_wp2_with fail
        refine Go.Proofs.YtbkmfomdhjhkpaaGreat.wp_region_class_lit (C := fun w' => ∃ x : After W1.heap.size W1, w' = x.val) (by kernel_rfl) (by kernel_rfl) ⟨⟨_, hz.drew⟩, rfl⟩ ?_
        repeat (go_big_quiet_step ((first
          | (go_at_call 83; first | with_reducible exact after_of (Nat.le_refl _) _ (HF1.out _) | with_reducible exact after_of (Nat.le_refl _) _ (HF2.out _))
          | (go_at_call 84; first | with_reducible exact after_of (Nat.le_refl _) _ (HS.out _) | with_reducible exact after_of (Nat.le_refl _) _ (HL.out _))
          | (go_at_call 53; with_reducible exact after_of (Nat.le_refl _) _ (Hed.out _)))))
        refine wpQuiet_nil ?_
        intro wz hw'
        obtain ⟨⟨wq, hz⟩, hw''⟩ := hw'
        dsimp only at hw''
        subst hw''
        clear cu ca cb HF1 HF2 HS HL Hed
        go_wp2
        go_ret
        exact ⟨ret_int (by simp only [namesV, hE, hv]; rfl), hbw.trans (hz.mono hbw.size)⟩
    | false =>
      go_wp2_with fail
      refine Go.Proofs.YtbkmfomdhjhkpaaGreat.wp_region_class_lit (C := fun w' => ∃ x : After W1.heap.size W1, w' = x.val) (by kernel_rfl) (by kernel_rfl) ⟨⟨_, (Below.refl _ _).drew⟩, rfl⟩ ?_
      repeat (go_big_quiet_step ((first
        | (go_at_call 83; first | with_reducible exact after_of (Nat.le_refl _) _ (HF1.out _) | with_reducible exact after_of (Nat.le_refl _) _ (HF2.out _))
        | (go_at_call 84; first | with_reducible exact after_of (Nat.le_refl _) _ (HS.out _) | with_reducible exact after_of (Nat.le_refl _) _ (HL.out _))
        | (go_at_call 53; with_reducible exact after_of (Nat.le_refl _) _ (Hed.out _)))))
      refine wpQuiet_nil ?_
      intro wz hw'
      obtain ⟨⟨wq, hz⟩, hw''⟩ := hw'
      dsimp only at hw''
      subst hw''
      go_wp2_with fail
      refine Go.Proofs.YtbkmfomdhjhkpaaGreat.wp_region_class_lit (C := fun w' => ∃ x : After W1.heap.size W1, w' = x.val) (by kernel_rfl) (by kernel_rfl) ⟨⟨_, hz.drew⟩, rfl⟩ ?_
      repeat (go_big_quiet_step ((first
        | (go_at_call 83; first | with_reducible exact after_of (Nat.le_refl _) _ (HF1.out _) | with_reducible exact after_of (Nat.le_refl _) _ (HF2.out _))
        | (go_at_call 84; first | with_reducible exact after_of (Nat.le_refl _) _ (HS.out _) | with_reducible exact after_of (Nat.le_refl _) _ (HL.out _))
        | (go_at_call 53; with_reducible exact after_of (Nat.le_refl _) _ (Hed.out _)))))
      refine wpQuiet_nil ?_
      intro wz hw'
      obtain ⟨⟨wq, hz⟩, hw''⟩ := hw'
      dsimp only at hw''
      subst hw''
      clear cu ca cb HF1 HF2 HS HL Hed
      go_wp2
      go_ret
      exact ⟨ret_int (by simp only [namesV, hE, hv]; rfl), hbw.trans (hz.mono hbw.size)⟩

set_option maxRecDepth 100000 in
set_option maxHeartbeats 8000000 in
theorem namesAgree_swap (u : Rul) (r s : Rec) (A D A' D' : Option Addr) (c d c' d' m m' : Nat) (w : World) (hu : 0 ≤ u.l) (hA : Strs w w.heap.size A r.names) (hA' : Strs w w.heap.size A' s.names) (pl : 0 < r.names.length) (pm : 0 < s.names.length) (hl5 : r.names.length ≤ 5) (hm5 : s.names.length ≤ 5) (hc : r.names.length ≤ c) (hc' : s.names.length ≤ c') (wl : Wordy r.names) (wm : Wordy s.names) (hlen : s.names.length < r.names.length) :
    Calls Tryz.prog 57 #[.agg #[.int .i64 u.l, .int .i64 u.d, .int .i64 u.y, .int .i64 u.t], .agg #[.int .i64 r.id, .slice A r.names.length c, .int .u8 r.suf, .int .i64 r.lo, .int .i64 r.hi, .string r.num, .bool r.twin, .slice D r.stays.length d, .map (some m)], .agg #[.int .i64 s.id, .slice A' s.names.length c', .int .u8 s.suf, .int .i64 s.lo, .int .i64 s.hi, .string s.num, .bool s.twin, .slice D' s.stays.length d', .map (some m')]] w fun e w' => e = .returned (.int .u8 (namesF u.l s.names r.names)) ∧ Below w.heap.size w w' := by
  have hleni : (s.names.length : Int) < (r.names.length : Int) := by omega
  rw [namesF_B u.l s.names r.names pm pl]
  obtain ⟨bp, op, rfl, hbp, hx, _⟩ := hA' 0 pm
  obtain ⟨bq, oq, rfl, hbq, hy, _⟩ := hA 0 pl
  rw [Nat.add_zero] at hx hy
  have wx := wm.at pm
  have wy := wl.at pl
  generalize hxx : s.names[0] = x at hx wx ⊢
  generalize hyy : r.names[0] = y at hy wy ⊢
  obtain ⟨s1, hs1⟩ : ∃ b, subs (fitL (-1)) s.names.tail r.names.tail = b := ⟨_, rfl⟩
  obtain ⟨s2, hs2⟩ : ∃ b, subs (fitL u.l) s.names.tail r.names.tail = b := ⟨_, rfl⟩
  obtain ⟨v, hv0⟩ : ∃ b, (lev x.data.toList y.data.toList : Int) = b := ⟨_, rfl⟩
  rw [hs1, hs2, hv0]
  go_enter Tryz.func57, Tryz.ntmps57
  go_upto_region 2 with fail
  have k0 := ((Blk.new w #[.int .i64 u.l, .int .i64 u.d, .int .i64 u.y, .int .i64 u.t] 23).alloc (.cells #[.int .i64 r.id, .slice (some ⟨bq, oq, none⟩) r.names.length c, .int .u8 r.suf, .int .i64 r.lo, .int .i64 r.hi, .string r.num, .bool r.twin, .slice D r.stays.length d, .map (some m)] 83)).alloc (.cells #[.int .i64 s.id, .slice (some ⟨bp, op, none⟩) s.names.length c', .int .u8 s.suf, .int .i64 s.lo, .int .i64 s.hi, .string s.num, .bool s.twin, .slice D' s.stays.length d', .map (some m')] 83)
  have k1 := (Blk.new (w.alloc (.cells #[.int .i64 u.l, .int .i64 u.d, .int .i64 u.y, .int .i64 u.t] 23)) #[.int .i64 r.id, .slice (some ⟨bq, oq, none⟩) r.names.length c, .int .u8 r.suf, .int .i64 r.lo, .int .i64 r.hi, .string r.num, .bool r.twin, .slice D r.stays.length d, .map (some m)] 83).alloc (.cells #[.int .i64 s.id, .slice (some ⟨bp, op, none⟩) s.names.length c', .int .u8 s.suf, .int .i64 s.lo, .int .i64 s.hi, .string s.num, .bool s.twin, .slice D' s.stays.length d', .map (some m')] 83)
  have k2 := Blk.new ((w.alloc (.cells #[.int .i64 u.l, .int .i64 u.d, .int .i64 u.y, .int .i64 u.t] 23)).alloc (.cells #[.int .i64 r.id, .slice (some ⟨bq, oq, none⟩) r.names.length c, .int .u8 r.suf, .int .i64 r.lo, .int .i64 r.hi, .string r.num, .bool r.twin, .slice D r.stays.length d, .map (some m)] 83)) #[.int .i64 s.id, .slice (some ⟨bp, op, none⟩) s.names.length c', .int .u8 s.suf, .int .i64 s.lo, .int .i64 s.hi, .string s.num, .bool s.twin, .slice D' s.stays.length d', .map (some m')] 83
  simp only [World.size_alloc] at k1 k2
  have hbw : Below w.heap.size w (((w.alloc (.cells #[.int .i64 u.l, .int .i64 u.d, .int .i64 u.y, .int .i64 u.t] 23)).alloc (.cells #[.int .i64 r.id, .slice (some ⟨bq, oq, none⟩) r.names.length c, .int .u8 r.suf, .int .i64 r.lo, .int .i64 r.hi, .string r.num, .bool r.twin, .slice D r.stays.length d, .map (some m)] 83)).alloc (.cells #[.int .i64 s.id, .slice (some ⟨bp, op, none⟩) s.names.length c', .int .u8 s.suf, .int .i64 s.lo, .int .i64 s.hi, .string s.num, .bool s.twin, .slice D' s.stays.length d', .map (some m')] 83)) := (((Below.refl _ _).alloc (Nat.le_refl _) _).alloc (by simp) _).alloc (by simp; omega) _
  generalize ((w.alloc (.cells #[.int .i64 u.l, .int .i64 u.d, .int .i64 u.y, .int .i64 u.t] 23)).alloc (.cells #[.int .i64 r.id, .slice (some ⟨bq, oq, none⟩) r.names.length c, .int .u8 r.suf, .int .i64 r.lo, .int .i64 r.hi, .string r.num, .bool r.twin, .slice D r.stays.length d, .map (some m)] 83)).alloc (.cells #[.int .i64 s.id, .slice (some ⟨bp, op, none⟩) s.names.length c', .int .u8 s.suf, .int .i64 s.lo, .int .i64 s.hi, .string s.num, .bool s.twin, .slice D' s.stays.length d', .map (some m')] 83) = W1 at *
  have c1 := k1.cell
  have c2 := k2.cell
  have oneS : ∀ v ∈ (#[.int .i64 s.id, .slice (some ⟨bp, op, none⟩) s.names.length c', .int .u8 s.suf, .int .i64 s.lo, .int .i64 s.hi, .string s.num, .bool s.twin, .slice D' s.stays.length d', .map (some m')] : Array Value).toList, v.oneCell' = true := by simp [Value.oneCell']
  have oneR : ∀ v ∈ (#[.int .i64 r.id, .slice (some ⟨bq, oq, none⟩) r.names.length c, .int .u8 r.suf, .int .i64 r.lo, .int .i64 r.hi, .string r.num, .bool r.twin, .slice D r.stays.length d, .map (some m)] : Array Value).toList, v.oneCell' = true := by simp [Value.oneCell']
  have e1 : Blk (W1.setRow (w.heap.size + 1) #[.int .i64 s.id, .slice (some ⟨bp, op, none⟩) s.names.length c', .int .u8 s.suf, .int .i64 s.lo, .int .i64 s.hi, .string s.num, .bool s.twin, .slice D' s.stays.length d', .map (some m')]) (w.heap.size + 1) #[.int .i64 s.id, .slice (some ⟨bp, op, none⟩) s.names.length c', .int .u8 s.suf, .int .i64 s.lo, .int .i64 s.hi, .string s.num, .bool s.twin, .slice D' s.stays.length d', .map (some m')] 83 := setRow_heap _ _ _ _ _ _ k1
  have e2 : Blk (W1.setRow (w.heap.size + 1) #[.int .i64 s.id, .slice (some ⟨bp, op, none⟩) s.names.length c', .int .u8 s.suf, .int .i64 s.lo, .int .i64 s.hi, .string s.num, .bool s.twin, .slice D' s.stays.length d', .map (some m')]) (w.heap.size + 1 + 1) #[.int .i64 s.id, .slice (some ⟨bp, op, none⟩) s.names.length c', .int .u8 s.suf, .int .i64 s.lo, .int .i64 s.hi, .string s.num, .bool s.twin, .slice D' s.stays.length d', .map (some m')] 83 := (setRow_other _ _ _ _ (by omega)).trans k2
  have e0 : Blk (W1.setRow (w.heap.size + 1) #[.int .i64 s.id, .slice (some ⟨bp, op, none⟩) s.names.length c', .int .u8 s.suf, .int .i64 s.lo, .int .i64 s.hi, .string s.num, .bool s.twin, .slice D' s.stays.length d', .map (some m')]) w.heap.size #[.int .i64 u.l, .int .i64 u.d, .int .i64 u.y, .int .i64 u.t] 23 := (setRow_other _ _ _ _ (by omega)).trans k0
  have hb1 := below_setRow hbw (show w.heap.size ≤ w.heap.size + 1 by omega) #[.int .i64 s.id, .slice (some ⟨bp, op, none⟩) s.names.length c', .int .u8 s.suf, .int .i64 s.lo, .int .i64 s.hi, .string s.num, .bool s.twin, .slice D' s.stays.length d', .map (some m')]
  go_upto_region 3 with (first
    | (refine wpList_store_row rfl 83 (.tmp 4) (.tmp 17) rfl (w.heap.size + 1) #[.int .i64 s.id, .slice (some ⟨bp, op, none⟩) s.names.length c', .int .u8 s.suf, .int .i64 s.lo, .int .i64 s.hi, .string s.num, .bool s.twin, .slice D' s.stays.length d', .map (some m')] rfl rfl 83 _ k1 (by kernel_rfl) rfl oneS ?_)
    | (refine wpList_store_row rfl 83 (.tmp 5) (.tmp 18) rfl (w.heap.size + 1 + 1) #[.int .i64 r.id, .slice (some ⟨bq, oq, none⟩) r.names.length c, .int .u8 r.suf, .int .i64 r.lo, .int .i64 r.hi, .string r.num, .bool r.twin, .slice D r.stays.length d, .map (some m)] rfl rfl 83 _ e2 (by kernel_rfl) rfl oneR ?_))
  have d2 : Blk ((W1.setRow (w.heap.size + 1) #[.int .i64 s.id, .slice (some ⟨bp, op, none⟩) s.names.length c', .int .u8 s.suf, .int .i64 s.lo, .int .i64 s.hi, .string s.num, .bool s.twin, .slice D' s.stays.length d', .map (some m')]).setRow (w.heap.size + 1 + 1) #[.int .i64 r.id, .slice (some ⟨bq, oq, none⟩) r.names.length c, .int .u8 r.suf, .int .i64 r.lo, .int .i64 r.hi, .string r.num, .bool r.twin, .slice D r.stays.length d, .map (some m)]) (w.heap.size + 1 + 1) #[.int .i64 r.id, .slice (some ⟨bq, oq, none⟩) r.names.length c, .int .u8 r.suf, .int .i64 r.lo, .int .i64 r.hi, .string r.num, .bool r.twin, .slice D r.stays.length d, .map (some m)] 83 := setRow_heap _ _ _ _ _ _ e2
  have d1 : Blk ((W1.setRow (w.heap.size + 1) #[.int .i64 s.id, .slice (some ⟨bp, op, none⟩) s.names.length c', .int .u8 s.suf, .int .i64 s.lo, .int .i64 s.hi, .string s.num, .bool s.twin, .slice D' s.stays.length d', .map (some m')]).setRow (w.heap.size + 1 + 1) #[.int .i64 r.id, .slice (some ⟨bq, oq, none⟩) r.names.length c, .int .u8 r.suf, .int .i64 r.lo, .int .i64 r.hi, .string r.num, .bool r.twin, .slice D r.stays.length d, .map (some m)]) (w.heap.size + 1) #[.int .i64 s.id, .slice (some ⟨bp, op, none⟩) s.names.length c', .int .u8 s.suf, .int .i64 s.lo, .int .i64 s.hi, .string s.num, .bool s.twin, .slice D' s.stays.length d', .map (some m')] 83 := (setRow_other _ _ _ _ (by omega)).trans e1
  have d0 : Blk ((W1.setRow (w.heap.size + 1) #[.int .i64 s.id, .slice (some ⟨bp, op, none⟩) s.names.length c', .int .u8 s.suf, .int .i64 s.lo, .int .i64 s.hi, .string s.num, .bool s.twin, .slice D' s.stays.length d', .map (some m')]).setRow (w.heap.size + 1 + 1) #[.int .i64 r.id, .slice (some ⟨bq, oq, none⟩) r.names.length c, .int .u8 r.suf, .int .i64 r.lo, .int .i64 r.hi, .string r.num, .bool r.twin, .slice D r.stays.length d, .map (some m)]) w.heap.size #[.int .i64 u.l, .int .i64 u.d, .int .i64 u.y, .int .i64 u.t] 23 := (setRow_other _ _ _ _ (by omega)).trans e0
  have hb2 := below_setRow hb1 (show w.heap.size ≤ w.heap.size + 1 + 1 by omega) #[.int .i64 r.id, .slice (some ⟨bq, oq, none⟩) r.names.length c, .int .u8 r.suf, .int .i64 r.lo, .int .i64 r.hi, .string r.num, .bool r.twin, .slice D r.stays.length d, .map (some m)]
  clear k0 k1 k2 hbw c1 c2 e0 e1 e2 hb1 oneS oneR
  have k0 := d0
  have k1 := d1
  have k2 := d2
  have hbw := hb2
  clear d0 d1 d2 hb2
  generalize (W1.setRow (w.heap.size + 1) #[.int .i64 s.id, .slice (some ⟨bp, op, none⟩) s.names.length c', .int .u8 s.suf, .int .i64 s.lo, .int .i64 s.hi, .string s.num, .bool s.twin, .slice D' s.stays.length d', .map (some m')]).setRow (w.heap.size + 1 + 1) #[.int .i64 r.id, .slice (some ⟨bq, oq, none⟩) r.names.length c, .int .u8 r.suf, .int .i64 r.lo, .int .i64 r.hi, .string r.num, .bool r.twin, .slice D r.stays.length d, .map (some m)] = W2 at *
  clear W1
  obtain ⟨W1, rfl⟩ : ∃ W1, W1 = W2 := ⟨_, rfl⟩
  have tp := (hA'.below hbw).more hbw.size
  have tq := (hA.below hbw).more hbw.size
  have hx1 := (hbw.cell (p := ⟨bp, op, none⟩) hbp).trans hx
  have hy1 := (hbw.cell (p := ⟨bq, oq, none⟩) hbq).trans hy
  have lx1 : bp < W1.heap.size := Nat.lt_of_lt_of_le hbp hbw.size
  have ly1 : bq < W1.heap.size := Nat.lt_of_lt_of_le hbq hbw.size
  have HF1 := Lib.hid (fun (X : After W1.heap.size W1) => family_any s bp op D' c' d' m' x X.val (After.cell hx1 lx1 X) pm)
  have HF2 := Lib.hid (fun (X : After W1.heap.size W1) => family_any r bq oq D c d m y X.val (After.cell hy1 ly1 X) pl)
  have HS := Lib.hid (fun (X : After W1.heap.size W1) => hs1 ▸ followedS_any s r (some ⟨bp, op, none⟩) D' (some ⟨bq, oq, none⟩) D c' d' c d m' m X.val (tp.after (Nat.le_refl _) X) (tq.after (Nat.le_refl _) X) pm pl hl5 hm5 hc' hc wm wl)
  have HL := Lib.hid (fun (X : After W1.heap.size W1) => hs2 ▸ followedL_any s r (some ⟨bp, op, none⟩) D' (some ⟨bq, oq, none⟩) D c' d' c d m' m u w.heap.size hu X.val (k0.below X.property k0.lt) (tp.after (Nat.le_refl _) X) (tq.after (Nat.le_refl _) X) pm pl hl5 hm5 hc' hc wm wl)
  have Hed := Lib.hid (fun W => hv0 ▸ edits_any x y W wx.2 wy.2)
  have cu := After.cells (B := W1.heap.size) k0.cell k0.lt
  have ca := After.cells (B := W1.heap.size) k1.cell k1.lt
  have cb := After.cells (B := W1.heap.size) k2.cell k2.lt
  clear hs1 hs2 hv0 hA hA' hx hy tp tq wx wy hx1 hy1 k0 k1 k2 wl wm
  cases hE : (x.toList == y.toList) with
  | true =>
    cases s1 with
    | true =>
      go_wp2_with fail
      refine Go.Proofs.YtbkmfomdhjhkpaaGreat.wp_region_class_lit (C := fun w' => ∃ x : After W1.heap.size W1, w' = x.val) (by kernel_rfl) (by kernel_rfl) ⟨⟨_, (Below.refl _ _).drew⟩, rfl⟩ ?_
      repeat (go_big_quiet_step ((first
        | (go_at_call 83; first | with_reducible exact after_of (Nat.le_refl _) _ (HF1.out _) | with_reducible exact after_of (Nat.le_refl _) _ (HF2.out _))
        | (go_at_call 84; first | with_reducible exact after_of (Nat.le_refl _) _ (HS.out _) | with_reducible exact after_of (Nat.le_refl _) _ (HL.out _))
        | (go_at_call 53; with_reducible exact after_of (Nat.le_refl _) _ (Hed.out _)))))
      refine wpQuiet_nil ?_
      intro wz hw'
      obtain ⟨⟨wq, hz⟩, hw''⟩ := hw'
      dsimp only at hw''
      subst hw''
      clear cu ca cb HF1 HF2 HS HL Hed
      go_wp2
      go_ret
      exact ⟨ret_int (by simp only [namesV, hE]; rfl), hbw.trans (hz.mono hbw.size)⟩
    | false =>
      cases hv : decide (v ≤ u.l) with
      | true =>
        cases s2 with
        | true =>
          go_wp2_with fail
          refine Go.Proofs.YtbkmfomdhjhkpaaGreat.wp_region_class_lit (C := fun w' => ∃ x : After W1.heap.size W1, w' = x.val) (by kernel_rfl) (by kernel_rfl) ⟨⟨_, (Below.refl _ _).drew⟩, rfl⟩ ?_
          repeat (go_big_quiet_step ((first
            | (go_at_call 83; first | with_reducible exact after_of (Nat.le_refl _) _ (HF1.out _) | with_reducible exact after_of (Nat.le_refl _) _ (HF2.out _))
            | (go_at_call 84; first | with_reducible exact after_of (Nat.le_refl _) _ (HS.out _) | with_reducible exact after_of (Nat.le_refl _) _ (HL.out _))
            | (go_at_call 53; with_reducible exact after_of (Nat.le_refl _) _ (Hed.out _)))))
          refine wpQuiet_nil ?_
          intro wz hw'
          obtain ⟨⟨wq, hz⟩, hw''⟩ := hw'
          dsimp only at hw''
          subst hw''
          go_wp2_with fail
          refine Go.Proofs.YtbkmfomdhjhkpaaGreat.wp_region_class_lit (C := fun w' => ∃ x : After W1.heap.size W1, w' = x.val) (by kernel_rfl) (by kernel_rfl) ⟨⟨_, hz.drew⟩, rfl⟩ ?_
          repeat (go_big_quiet_step ((first
            | (go_at_call 83; first | with_reducible exact after_of (Nat.le_refl _) _ (HF1.out _) | with_reducible exact after_of (Nat.le_refl _) _ (HF2.out _))
            | (go_at_call 84; first | with_reducible exact after_of (Nat.le_refl _) _ (HS.out _) | with_reducible exact after_of (Nat.le_refl _) _ (HL.out _))
            | (go_at_call 53; with_reducible exact after_of (Nat.le_refl _) _ (Hed.out _)))))
          refine wpQuiet_nil ?_
          intro wz hw'
          obtain ⟨⟨wq, hz⟩, hw''⟩ := hw'
          dsimp only at hw''
          subst hw''
          clear cu ca cb HF1 HF2 HS HL Hed
          go_wp2
          go_ret
          exact ⟨ret_int (by simp only [namesV, hE, hv]; rfl), hbw.trans (hz.mono hbw.size)⟩
        | false =>
          go_wp2_with fail
          refine Go.Proofs.YtbkmfomdhjhkpaaGreat.wp_region_class_lit (C := fun w' => ∃ x : After W1.heap.size W1, w' = x.val) (by kernel_rfl) (by kernel_rfl) ⟨⟨_, (Below.refl _ _).drew⟩, rfl⟩ ?_
          repeat (go_big_quiet_step ((first
            | (go_at_call 83; first | with_reducible exact after_of (Nat.le_refl _) _ (HF1.out _) | with_reducible exact after_of (Nat.le_refl _) _ (HF2.out _))
            | (go_at_call 84; first | with_reducible exact after_of (Nat.le_refl _) _ (HS.out _) | with_reducible exact after_of (Nat.le_refl _) _ (HL.out _))
            | (go_at_call 53; with_reducible exact after_of (Nat.le_refl _) _ (Hed.out _)))))
          refine wpQuiet_nil ?_
          intro wz hw'
          obtain ⟨⟨wq, hz⟩, hw''⟩ := hw'
          dsimp only at hw''
          subst hw''
          go_wp2_with fail
          refine Go.Proofs.YtbkmfomdhjhkpaaGreat.wp_region_class_lit (C := fun w' => ∃ x : After W1.heap.size W1, w' = x.val) (by kernel_rfl) (by kernel_rfl) ⟨⟨_, hz.drew⟩, rfl⟩ ?_
          repeat (go_big_quiet_step ((first
            | (go_at_call 83; first | with_reducible exact after_of (Nat.le_refl _) _ (HF1.out _) | with_reducible exact after_of (Nat.le_refl _) _ (HF2.out _))
            | (go_at_call 84; first | with_reducible exact after_of (Nat.le_refl _) _ (HS.out _) | with_reducible exact after_of (Nat.le_refl _) _ (HL.out _))
            | (go_at_call 53; with_reducible exact after_of (Nat.le_refl _) _ (Hed.out _)))))
          refine wpQuiet_nil ?_
          intro wz hw'
          obtain ⟨⟨wq, hz⟩, hw''⟩ := hw'
          dsimp only at hw''
          subst hw''
          clear cu ca cb HF1 HF2 HS HL Hed
          go_wp2
          go_ret
          exact ⟨ret_int (by simp only [namesV, hE, hv]; rfl), hbw.trans (hz.mono hbw.size)⟩
      | false =>
        go_wp2_with fail
        refine Go.Proofs.YtbkmfomdhjhkpaaGreat.wp_region_class_lit (C := fun w' => ∃ x : After W1.heap.size W1, w' = x.val) (by kernel_rfl) (by kernel_rfl) ⟨⟨_, (Below.refl _ _).drew⟩, rfl⟩ ?_
        repeat (go_big_quiet_step ((first
          | (go_at_call 83; first | with_reducible exact after_of (Nat.le_refl _) _ (HF1.out _) | with_reducible exact after_of (Nat.le_refl _) _ (HF2.out _))
          | (go_at_call 84; first | with_reducible exact after_of (Nat.le_refl _) _ (HS.out _) | with_reducible exact after_of (Nat.le_refl _) _ (HL.out _))
          | (go_at_call 53; with_reducible exact after_of (Nat.le_refl _) _ (Hed.out _)))))
        refine wpQuiet_nil ?_
        intro wz hw'
        obtain ⟨⟨wq, hz⟩, hw''⟩ := hw'
        dsimp only at hw''
        subst hw''
        go_wp2_with fail
        refine Go.Proofs.YtbkmfomdhjhkpaaGreat.wp_region_class_lit (C := fun w' => ∃ x : After W1.heap.size W1, w' = x.val) (by kernel_rfl) (by kernel_rfl) ⟨⟨_, hz.drew⟩, rfl⟩ ?_
        repeat (go_big_quiet_step ((first
          | (go_at_call 83; first | with_reducible exact after_of (Nat.le_refl _) _ (HF1.out _) | with_reducible exact after_of (Nat.le_refl _) _ (HF2.out _))
          | (go_at_call 84; first | with_reducible exact after_of (Nat.le_refl _) _ (HS.out _) | with_reducible exact after_of (Nat.le_refl _) _ (HL.out _))
          | (go_at_call 53; with_reducible exact after_of (Nat.le_refl _) _ (Hed.out _)))))
        refine wpQuiet_nil ?_
        intro wz hw'
        obtain ⟨⟨wq, hz⟩, hw''⟩ := hw'
        dsimp only at hw''
        subst hw''
        clear cu ca cb HF1 HF2 HS HL Hed
        go_wp2
        go_ret
        exact ⟨ret_int (by simp only [namesV, hE, hv]; rfl), hbw.trans (hz.mono hbw.size)⟩
  | false =>
    cases hv : decide (v ≤ u.l) with
    | true =>
      cases s2 with
      | true =>
        go_wp2_with fail
        refine Go.Proofs.YtbkmfomdhjhkpaaGreat.wp_region_class_lit (C := fun w' => ∃ x : After W1.heap.size W1, w' = x.val) (by kernel_rfl) (by kernel_rfl) ⟨⟨_, (Below.refl _ _).drew⟩, rfl⟩ ?_
        repeat (go_big_quiet_step ((first
          | (go_at_call 83; first | with_reducible exact after_of (Nat.le_refl _) _ (HF1.out _) | with_reducible exact after_of (Nat.le_refl _) _ (HF2.out _))
          | (go_at_call 84; first | with_reducible exact after_of (Nat.le_refl _) _ (HS.out _) | with_reducible exact after_of (Nat.le_refl _) _ (HL.out _))
          | (go_at_call 53; with_reducible exact after_of (Nat.le_refl _) _ (Hed.out _)))))
        refine wpQuiet_nil ?_
        intro wz hw'
        obtain ⟨⟨wq, hz⟩, hw''⟩ := hw'
        dsimp only at hw''
        subst hw''
        go_wp2_with fail
        refine Go.Proofs.YtbkmfomdhjhkpaaGreat.wp_region_class_lit (C := fun w' => ∃ x : After W1.heap.size W1, w' = x.val) (by kernel_rfl) (by kernel_rfl) ⟨⟨_, hz.drew⟩, rfl⟩ ?_
        repeat (go_big_quiet_step ((first
          | (go_at_call 83; first | with_reducible exact after_of (Nat.le_refl _) _ (HF1.out _) | with_reducible exact after_of (Nat.le_refl _) _ (HF2.out _))
          | (go_at_call 84; first | with_reducible exact after_of (Nat.le_refl _) _ (HS.out _) | with_reducible exact after_of (Nat.le_refl _) _ (HL.out _))
          | (go_at_call 53; with_reducible exact after_of (Nat.le_refl _) _ (Hed.out _)))))
        refine wpQuiet_nil ?_
        intro wz hw'
        obtain ⟨⟨wq, hz⟩, hw''⟩ := hw'
        dsimp only at hw''
        subst hw''
        clear cu ca cb HF1 HF2 HS HL Hed
        go_wp2
        go_ret
        exact ⟨ret_int (by simp only [namesV, hE, hv]; rfl), hbw.trans (hz.mono hbw.size)⟩
      | false =>
        go_wp2_with fail
        refine Go.Proofs.YtbkmfomdhjhkpaaGreat.wp_region_class_lit (C := fun w' => ∃ x : After W1.heap.size W1, w' = x.val) (by kernel_rfl) (by kernel_rfl) ⟨⟨_, (Below.refl _ _).drew⟩, rfl⟩ ?_
        repeat (go_big_quiet_step ((first
          | (go_at_call 83; first | with_reducible exact after_of (Nat.le_refl _) _ (HF1.out _) | with_reducible exact after_of (Nat.le_refl _) _ (HF2.out _))
          | (go_at_call 84; first | with_reducible exact after_of (Nat.le_refl _) _ (HS.out _) | with_reducible exact after_of (Nat.le_refl _) _ (HL.out _))
          | (go_at_call 53; with_reducible exact after_of (Nat.le_refl _) _ (Hed.out _)))))
        refine wpQuiet_nil ?_
        intro wz hw'
        obtain ⟨⟨wq, hz⟩, hw''⟩ := hw'
        dsimp only at hw''
        subst hw''
        go_wp2_with fail
        refine Go.Proofs.YtbkmfomdhjhkpaaGreat.wp_region_class_lit (C := fun w' => ∃ x : After W1.heap.size W1, w' = x.val) (by kernel_rfl) (by kernel_rfl) ⟨⟨_, hz.drew⟩, rfl⟩ ?_
        repeat (go_big_quiet_step ((first
          | (go_at_call 83; first | with_reducible exact after_of (Nat.le_refl _) _ (HF1.out _) | with_reducible exact after_of (Nat.le_refl _) _ (HF2.out _))
          | (go_at_call 84; first | with_reducible exact after_of (Nat.le_refl _) _ (HS.out _) | with_reducible exact after_of (Nat.le_refl _) _ (HL.out _))
          | (go_at_call 53; with_reducible exact after_of (Nat.le_refl _) _ (Hed.out _)))))
        refine wpQuiet_nil ?_
        intro wz hw'
        obtain ⟨⟨wq, hz⟩, hw''⟩ := hw'
        dsimp only at hw''
        subst hw''
        clear cu ca cb HF1 HF2 HS HL Hed
        go_wp2
        go_ret
        exact ⟨ret_int (by simp only [namesV, hE, hv]; rfl), hbw.trans (hz.mono hbw.size)⟩
    | false =>
      go_wp2_with fail
      refine Go.Proofs.YtbkmfomdhjhkpaaGreat.wp_region_class_lit (C := fun w' => ∃ x : After W1.heap.size W1, w' = x.val) (by kernel_rfl) (by kernel_rfl) ⟨⟨_, (Below.refl _ _).drew⟩, rfl⟩ ?_
      repeat (go_big_quiet_step ((first
        | (go_at_call 83; first | with_reducible exact after_of (Nat.le_refl _) _ (HF1.out _) | with_reducible exact after_of (Nat.le_refl _) _ (HF2.out _))
        | (go_at_call 84; first | with_reducible exact after_of (Nat.le_refl _) _ (HS.out _) | with_reducible exact after_of (Nat.le_refl _) _ (HL.out _))
        | (go_at_call 53; with_reducible exact after_of (Nat.le_refl _) _ (Hed.out _)))))
      refine wpQuiet_nil ?_
      intro wz hw'
      obtain ⟨⟨wq, hz⟩, hw''⟩ := hw'
      dsimp only at hw''
      subst hw''
      go_wp2_with fail
      refine Go.Proofs.YtbkmfomdhjhkpaaGreat.wp_region_class_lit (C := fun w' => ∃ x : After W1.heap.size W1, w' = x.val) (by kernel_rfl) (by kernel_rfl) ⟨⟨_, hz.drew⟩, rfl⟩ ?_
      repeat (go_big_quiet_step ((first
        | (go_at_call 83; first | with_reducible exact after_of (Nat.le_refl _) _ (HF1.out _) | with_reducible exact after_of (Nat.le_refl _) _ (HF2.out _))
        | (go_at_call 84; first | with_reducible exact after_of (Nat.le_refl _) _ (HS.out _) | with_reducible exact after_of (Nat.le_refl _) _ (HL.out _))
        | (go_at_call 53; with_reducible exact after_of (Nat.le_refl _) _ (Hed.out _)))))
      refine wpQuiet_nil ?_
      intro wz hw'
      obtain ⟨⟨wq, hz⟩, hw''⟩ := hw'
      dsimp only at hw''
      subst hw''
      clear cu ca cb HF1 HF2 HS HL Hed
      go_wp2
      go_ret
      exact ⟨ret_int (by simp only [namesV, hE, hv]; rfl), hbw.trans (hz.mono hbw.size)⟩

theorem namesAgree_any (u : Rul) (r s : Rec) (A D A' D' : Option Addr) (c d c' d' m m' : Nat) (w : World) (hu : 0 ≤ u.l) (hA : Strs w w.heap.size A r.names) (hA' : Strs w w.heap.size A' s.names) (pl : 0 < r.names.length) (pm : 0 < s.names.length) (hl5 : r.names.length ≤ 5) (hm5 : s.names.length ≤ 5) (hc : r.names.length ≤ c) (hc' : s.names.length ≤ c') (wl : Wordy r.names) (wm : Wordy s.names) :
    Calls Tryz.prog 57 #[.agg #[.int .i64 u.l, .int .i64 u.d, .int .i64 u.y, .int .i64 u.t], .agg #[.int .i64 r.id, .slice A r.names.length c, .int .u8 r.suf, .int .i64 r.lo, .int .i64 r.hi, .string r.num, .bool r.twin, .slice D r.stays.length d, .map (some m)], .agg #[.int .i64 s.id, .slice A' s.names.length c', .int .u8 s.suf, .int .i64 s.lo, .int .i64 s.hi, .string s.num, .bool s.twin, .slice D' s.stays.length d', .map (some m')]] w fun e w' => e = .returned (.int .u8 (namesS u.l r.names s.names)) ∧ Below w.heap.size w w' := by
  by_cases h : s.names.length < r.names.length
  · rw [show namesS u.l r.names s.names = namesF u.l s.names r.names by rw [namesS, if_pos h]]
    exact namesAgree_swap u r s A D A' D' c d c' d' m m' w hu hA hA' pl pm hl5 hm5 hc hc' wl wm h
  · rw [show namesS u.l r.names s.names = namesF u.l r.names s.names by rw [namesS, if_neg h]]
    exact namesAgree_plain u r s A D A' D' c d c' d' m m' w hu hA hA' pl pm hl5 hm5 hc hc' wl wm h

end Go.Proofs.YtbkmfomdhjhkpaaGreat
