/- How names agree: the reference's. -/
import Derived.Test.YtbkmfomdhjhkpaaGreatClass
namespace Go.Proofs.YtbkmfomdhjhkpaaGreat
open Go.RowKit

/-- Where the names behind the first one lie. -/
def tailA (A : Option Addr) (c : Nat) : Option Addr := if c = 1 then A else A.map (·.add 1)
theorem Strs.tail {w : World} {B : Nat} {A : Option Addr} {l : List ByteArray} {c : Nat} (h : Strs w B A l) (hc : l.length ≤ c) : Strs w B (tailA A c) l.tail := by
  intro k hk
  have hk' : k + 1 < l.length := by simp at hk; omega
  obtain ⟨b, off, rfl, hb, hcell, hs⟩ := h (k + 1) hk'
  have hc1 : ¬ c = 1 := by omega
  refine ⟨b, off + 1, by rw [tailA, if_neg hc1]; simp [Addr.add], hb, ?_, by simpa using hs⟩
  rw [show off + 1 + k = off + (k + 1) by omega, hcell]
  simp
theorem run_tail {P : Program} {t e : TypeId} (ht : P.underlying t = some (.slice e)) (hsz : (P.info? e).map (·.size) = some 1) (A : Option Addr) (l : List ByteArray) (c : Nat) (hl : 0 < l.length) (w : World) :
    (Instr.slice t (.slice A l.length c) (some (.int .i64 1)) none none).run P w = .ok (.slice (tailA A c) l.tail.length (c - 1)) w := by
  obtain ⟨i, hi, hs⟩ := Option.map_eq_some_iff.1 hsz
  have h1 : (1 : Int) ≤ (l.length : Int) := by omega
  simp [Instr.slice, Instr.sliceBounds, Instr.sliceBound, asIntOf, run_underlying ht, sizeOf, typeInfo, hi, hs, h1, tailA]

/-- How names agree: few names, and many. -/
def namesF (n : Int) (l m : List ByteArray) : Int :=
  if l.head? = m.head? ∧ subs (fitL (-1)) l.tail m.tail = true then 3
  else if (lev (l.head?.getD ByteArray.empty).data.toList (m.head?.getD ByteArray.empty).data.toList : Int) ≤ n ∧ subs (fitL n) l.tail m.tail = true then 2 else 0
def namesS (n : Int) (l m : List ByteArray) : Int := if m.length < l.length then namesF n m l else namesF n l m

theorem stringSize : (Tryz.prog.info? 9).map (·.size) = some 1 := by kernel_rfl

/-- What is answered, by what was found. -/
def namesV (x y : ByteArray) (s1 s2 : Bool) (v n : Int) : Int := if ((x.toList == y.toList) && s1) = true then 3 else if (decide (v ≤ n) && s2) = true then 2 else 0
theorem namesF_B (n : Int) (l m : List ByteArray) (pl : 0 < l.length) (pm : 0 < m.length) : namesF n l m = namesV l[0] m[0] (subs (fitL (-1)) l.tail m.tail) (subs (fitL n) l.tail m.tail) (lev l[0].data.toList m[0].data.toList) n := by
  have e1 : l.head? = some l[0] := by rw [List.head?_eq_getElem?]; exact List.getElem?_eq_getElem pl
  have e2 : m.head? = some m[0] := by rw [List.head?_eq_getElem?]; exact List.getElem?_eq_getElem pm
  have e3 : (l[0] = m[0]) ↔ (l[0].toList == m[0].toList) = true := by
    rw [beq_iff_eq, ByteArray.toList_eq, ByteArray.toList_eq]
    exact ⟨fun h => by rw [h], fun h => WideShapes.bytes_inj h⟩
  unfold namesF namesV
  rw [e1, e2]
  simp only [Option.some.injEq, Option.getD_some, Bool.and_eq_true, decide_eq_true_eq, e3]


set_option maxRecDepth 100000 in
set_option maxHeartbeats 4000000 in
theorem refNames_plain (u : Rul) (l m : List ByteArray) (A A' : Option Addr) (c c' : Nat) (w : World) (hA : Strs w w.heap.size A l) (hA' : Strs w w.heap.size A' m) (hl : l.length ≤ 5) (hm : m.length ≤ 5) (hc : l.length ≤ c) (hc' : m.length ≤ c') (wl : Wordy l) (wm : Wordy m) (pl : 0 < l.length) (pm : 0 < m.length) (hsw : ¬ (m.length : Int) < (l.length : Int)) :
    Calls Tryz.prog 62 #[.agg #[.int .i64 u.l, .int .i64 u.d, .int .i64 u.y, .int .i64 u.t], .slice A l.length c, .slice A' m.length c'] w fun e w' => e = .returned (.int .u8 (namesF u.l l m)) ∧ Below w.heap.size w w' := by
  have hsl := fun W => run_tail Tryz.underlying42 stringSize A l c pl W
  have hsm := fun W => run_tail Tryz.underlying42 stringSize A' m c' pm W
  have tl := (hA.tail hc).below ((Below.refl _ _).alloc (Nat.le_refl _) (.cells #[.int .i64 u.l, .int .i64 u.d, .int .i64 u.y, .int .i64 u.t] 23)) |>.more (show w.heap.size ≤ w.heap.size + 1 by omega)
  have tm := (hA'.tail hc').below ((Below.refl _ _).alloc (Nat.le_refl _) (.cells #[.int .i64 u.l, .int .i64 u.d, .int .i64 u.y, .int .i64 u.t] 23)) |>.more (show w.heap.size ≤ w.heap.size + 1 by omega)
  have wx := wl.at pl
  have wy := wm.at pm
  have hlt : l.tail.length ≤ maxLen := by simp [maxLen]; omega
  have hmt : m.tail.length ≤ maxLen := by simp [maxLen]; omega
  rw [namesF_B u.l l m pl pm]
  obtain ⟨b, off, rfl, hb, hx, _⟩ := (hA.alloc (Nat.le_refl _) (.cells #[.int .i64 u.l, .int .i64 u.d, .int .i64 u.y, .int .i64 u.t] 23)) 0 pl
  obtain ⟨b', off', rfl, hb', hy, _⟩ := (hA'.alloc (Nat.le_refl _) (.cells #[.int .i64 u.l, .int .i64 u.d, .int .i64 u.y, .int .i64 u.t] 23)) 0 pm
  rw [Nat.add_zero] at hx hy
  generalize l[0] = x at hx wx ⊢
  generalize m[0] = y at hy wy ⊢
  have Hed := Lib.hid (fun W => refEdits_any x y W wx.2 wy.2)
  have Hg1 := Lib.hid (fun W h1 h2 => given_any l.tail m.tail (tailA (some ⟨b, off, none⟩) c) (tailA (some ⟨b', off', none⟩) c') (c - 1) (c' - 1) (-1) W h1 h2 hlt hmt wl.tail wm.tail)
  have Hg2 := Lib.hid (fun W h1 h2 => given_any l.tail m.tail (tailA (some ⟨b, off, none⟩) c) (tailA (some ⟨b', off', none⟩) c') (c - 1) (c' - 1) u.l W h1 h2 hlt hmt wl.tail wm.tail)
  simp only [List.length_tail] at Hg1 Hg2 hsl hsm
  generalize (lev x.data.toList y.data.toList : Int) = v at Hed ⊢
  generalize tailA (some ⟨b, off, none⟩) c = T at *
  generalize tailA (some ⟨b', off', none⟩) c' = T' at *
  generalize subs (fitL (-1)) l.tail m.tail = s1 at Hg1 ⊢
  generalize subs (fitL u.l) l.tail m.tail = s2 at Hg2 ⊢
  have h0l : (0 : Int) < (l.length : Int) := by omega
  have h0m : (0 : Int) < (m.length : Int) := by omega
  have nB : w.heap.size + 1 ≤ (w.alloc (.cells #[.int .i64 u.l, .int .i64 u.d, .int .i64 u.y, .int .i64 u.t] 23)).heap.size := by simp
  have cx := After.cell (B := w.heap.size + 1) hx (by omega)
  have cy := After.cell (B := w.heap.size + 1) hy (by omega)
  have cu := After.cells (B := w.heap.size + 1) (w := (w.alloc (.cells #[.int .i64 u.l, .int .i64 u.d, .int .i64 u.y, .int .i64 u.t] 23))) (g := w.heap.size) (cs := #[.int .i64 u.l, .int .i64 u.d, .int .i64 u.y, .int .i64 u.t]) (fun i => World.cell?_alloc_new _ _ _ i) (by omega)
  have hbw : Below w.heap.size w (w.alloc (.cells #[.int .i64 u.l, .int .i64 u.d, .int .i64 u.y, .int .i64 u.t] 23)) := (Below.refl _ _).alloc (Nat.le_refl _) _
  clear hA hA' hlt hmt wx wy wl wm
  cases hE : (x.toList == y.toList) with
  | true =>
    cases s1 with
    | true =>
      go_enter Tryz.func62, Tryz.ntmps62
      go_wp2_with fail
      refine wp_region_class_lit (C := fun w' => ∃ x : After (w.heap.size + 1) (w.alloc (.cells #[.int .i64 u.l, .int .i64 u.d, .int .i64 u.y, .int .i64 u.t] 23)), w' = x.val) (by kernel_rfl) (by kernel_rfl) ⟨⟨_, (Below.refl _ _).drew⟩, rfl⟩ ?_
      repeat (go_big_quiet_step ((first
        | (go_at_call 89; exact after_of nB _ (Hg1.out _ (tl.after nB _) (tm.after nB _)))
        | (go_at_call 90; exact after_of nB _ (Hed.out _)))))
      refine wpQuiet_nil ?_
      intro _ hw'
      obtain ⟨⟨wz, hz⟩, hw''⟩ := hw'
      dsimp only at hw''
      subst hw''
      go_wp2
      go_ret
      exact ⟨ret_int (by simp only [namesV, hE]; rfl), hbw.trans (hz.mono (by omega))⟩
    | false =>
      cases hv : decide (v ≤ u.l) with
      | true =>
        cases s2 with
        | true =>
          go_enter Tryz.func62, Tryz.ntmps62
          go_wp2_with fail
          refine wp_region_class_lit (C := fun w' => ∃ x : After (w.heap.size + 1) (w.alloc (.cells #[.int .i64 u.l, .int .i64 u.d, .int .i64 u.y, .int .i64 u.t] 23)), w' = x.val) (by kernel_rfl) (by kernel_rfl) ⟨⟨_, (Below.refl _ _).drew⟩, rfl⟩ ?_
          repeat (go_big_quiet_step ((first
            | (go_at_call 89; exact after_of nB _ (Hg1.out _ (tl.after nB _) (tm.after nB _)))
            | (go_at_call 90; exact after_of nB _ (Hed.out _)))))
          refine wpQuiet_nil ?_
          intro _ hw'
          obtain ⟨⟨wz, hz⟩, hw''⟩ := hw'
          dsimp only at hw''
          subst hw''
          go_wp2_with fail
          refine wp_region_class_lit (C := fun w' => ∃ x : After (w.heap.size + 1) (w.alloc (.cells #[.int .i64 u.l, .int .i64 u.d, .int .i64 u.y, .int .i64 u.t] 23)), w' = x.val) (by kernel_rfl) (by kernel_rfl) ⟨⟨_, hz.drew⟩, rfl⟩ ?_
          repeat (go_big_quiet_step ((first
            | (go_at_call 89; exact after_of nB _ (Hg2.out _ (tl.after nB _) (tm.after nB _)))
            | (go_at_call 90; exact after_of nB _ (Hed.out _)))))
          refine wpQuiet_nil ?_
          intro _ hw'
          obtain ⟨⟨wz, hz⟩, hw''⟩ := hw'
          dsimp only at hw''
          subst hw''
          go_wp2
          go_ret
          exact ⟨ret_int (by simp only [namesV, hE, hv]; rfl), hbw.trans (hz.mono (by omega))⟩
        | false =>
          go_enter Tryz.func62, Tryz.ntmps62
          go_wp2_with fail
          refine wp_region_class_lit (C := fun w' => ∃ x : After (w.heap.size + 1) (w.alloc (.cells #[.int .i64 u.l, .int .i64 u.d, .int .i64 u.y, .int .i64 u.t] 23)), w' = x.val) (by kernel_rfl) (by kernel_rfl) ⟨⟨_, (Below.refl _ _).drew⟩, rfl⟩ ?_
          repeat (go_big_quiet_step ((first
            | (go_at_call 89; exact after_of nB _ (Hg1.out _ (tl.after nB _) (tm.after nB _)))
            | (go_at_call 90; exact after_of nB _ (Hed.out _)))))
          refine wpQuiet_nil ?_
          intro _ hw'
          obtain ⟨⟨wz, hz⟩, hw''⟩ := hw'
          dsimp only at hw''
          subst hw''
          go_wp2_with fail
          refine wp_region_class_lit (C := fun w' => ∃ x : After (w.heap.size + 1) (w.alloc (.cells #[.int .i64 u.l, .int .i64 u.d, .int .i64 u.y, .int .i64 u.t] 23)), w' = x.val) (by kernel_rfl) (by kernel_rfl) ⟨⟨_, hz.drew⟩, rfl⟩ ?_
          repeat (go_big_quiet_step ((first
            | (go_at_call 89; exact after_of nB _ (Hg2.out _ (tl.after nB _) (tm.after nB _)))
            | (go_at_call 90; exact after_of nB _ (Hed.out _)))))
          refine wpQuiet_nil ?_
          intro _ hw'
          obtain ⟨⟨wz, hz⟩, hw''⟩ := hw'
          dsimp only at hw''
          subst hw''
          go_wp2
          go_ret
          exact ⟨ret_int (by simp only [namesV, hE, hv]; rfl), hbw.trans (hz.mono (by omega))⟩
      | false =>
        go_enter Tryz.func62, Tryz.ntmps62
        go_wp2_with fail
        refine wp_region_class_lit (C := fun w' => ∃ x : After (w.heap.size + 1) (w.alloc (.cells #[.int .i64 u.l, .int .i64 u.d, .int .i64 u.y, .int .i64 u.t] 23)), w' = x.val) (by kernel_rfl) (by kernel_rfl) ⟨⟨_, (Below.refl _ _).drew⟩, rfl⟩ ?_
        repeat (go_big_quiet_step ((first
          | (go_at_call 89; exact after_of nB _ (Hg1.out _ (tl.after nB _) (tm.after nB _)))
          | (go_at_call 90; exact after_of nB _ (Hed.out _)))))
        refine wpQuiet_nil ?_
        intro _ hw'
        obtain ⟨⟨wz, hz⟩, hw''⟩ := hw'
        dsimp only at hw''
        subst hw''
        go_wp2_with fail
        refine wp_region_class_lit (C := fun w' => ∃ x : After (w.heap.size + 1) (w.alloc (.cells #[.int .i64 u.l, .int .i64 u.d, .int .i64 u.y, .int .i64 u.t] 23)), w' = x.val) (by kernel_rfl) (by kernel_rfl) ⟨⟨_, hz.drew⟩, rfl⟩ ?_
        repeat (go_big_quiet_step ((first
          | (go_at_call 89; exact after_of nB _ (Hg2.out _ (tl.after nB _) (tm.after nB _)))
          | (go_at_call 90; exact after_of nB _ (Hed.out _)))))
        refine wpQuiet_nil ?_
        intro _ hw'
        obtain ⟨⟨wz, hz⟩, hw''⟩ := hw'
        dsimp only at hw''
        subst hw''
        go_wp2
        go_ret
        exact ⟨ret_int (by simp only [namesV, hE, hv]; rfl), hbw.trans (hz.mono (by omega))⟩
  | false =>
    cases hv : decide (v ≤ u.l) with
    | true =>
      cases s2 with
      | true =>
        go_enter Tryz.func62, Tryz.ntmps62
        go_wp2_with fail
        refine wp_region_class_lit (C := fun w' => ∃ x : After (w.heap.size + 1) (w.alloc (.cells #[.int .i64 u.l, .int .i64 u.d, .int .i64 u.y, .int .i64 u.t] 23)), w' = x.val) (by kernel_rfl) (by kernel_rfl) ⟨⟨_, (Below.refl _ _).drew⟩, rfl⟩ ?_
        repeat (go_big_quiet_step ((first
          | (go_at_call 89; exact after_of nB _ (Hg1.out _ (tl.after nB _) (tm.after nB _)))
          | (go_at_call 90; exact after_of nB _ (Hed.out _)))))
        refine wpQuiet_nil ?_
        intro _ hw'
        obtain ⟨⟨wz, hz⟩, hw''⟩ := hw'
        dsimp only at hw''
        subst hw''
        go_wp2_with fail
        refine wp_region_class_lit (C := fun w' => ∃ x : After (w.heap.size + 1) (w.alloc (.cells #[.int .i64 u.l, .int .i64 u.d, .int .i64 u.y, .int .i64 u.t] 23)), w' = x.val) (by kernel_rfl) (by kernel_rfl) ⟨⟨_, hz.drew⟩, rfl⟩ ?_
        repeat (go_big_quiet_step ((first
          | (go_at_call 89; exact after_of nB _ (Hg2.out _ (tl.after nB _) (tm.after nB _)))
          | (go_at_call 90; exact after_of nB _ (Hed.out _)))))
        refine wpQuiet_nil ?_
        intro _ hw'
        obtain ⟨⟨wz, hz⟩, hw''⟩ := hw'
        dsimp only at hw''
        subst hw''
        go_wp2
        go_ret
        exact ⟨ret_int (by simp only [namesV, hE, hv]; rfl), hbw.trans (hz.mono (by omega))⟩
      | false =>
        go_enter Tryz.func62, Tryz.ntmps62
        go_wp2_with fail
        refine wp_region_class_lit (C := fun w' => ∃ x : After (w.heap.size + 1) (w.alloc (.cells #[.int .i64 u.l, .int .i64 u.d, .int .i64 u.y, .int .i64 u.t] 23)), w' = x.val) (by kernel_rfl) (by kernel_rfl) ⟨⟨_, (Below.refl _ _).drew⟩, rfl⟩ ?_
        repeat (go_big_quiet_step ((first
          | (go_at_call 89; exact after_of nB _ (Hg1.out _ (tl.after nB _) (tm.after nB _)))
          | (go_at_call 90; exact after_of nB _ (Hed.out _)))))
        refine wpQuiet_nil ?_
        intro _ hw'
        obtain ⟨⟨wz, hz⟩, hw''⟩ := hw'
        dsimp only at hw''
        subst hw''
        go_wp2_with fail
        refine wp_region_class_lit (C := fun w' => ∃ x : After (w.heap.size + 1) (w.alloc (.cells #[.int .i64 u.l, .int .i64 u.d, .int .i64 u.y, .int .i64 u.t] 23)), w' = x.val) (by kernel_rfl) (by kernel_rfl) ⟨⟨_, hz.drew⟩, rfl⟩ ?_
        repeat (go_big_quiet_step ((first
          | (go_at_call 89; exact after_of nB _ (Hg2.out _ (tl.after nB _) (tm.after nB _)))
          | (go_at_call 90; exact after_of nB _ (Hed.out _)))))
        refine wpQuiet_nil ?_
        intro _ hw'
        obtain ⟨⟨wz, hz⟩, hw''⟩ := hw'
        dsimp only at hw''
        subst hw''
        go_wp2
        go_ret
        exact ⟨ret_int (by simp only [namesV, hE, hv]; rfl), hbw.trans (hz.mono (by omega))⟩
    | false =>
      go_enter Tryz.func62, Tryz.ntmps62
      go_wp2_with fail
      refine wp_region_class_lit (C := fun w' => ∃ x : After (w.heap.size + 1) (w.alloc (.cells #[.int .i64 u.l, .int .i64 u.d, .int .i64 u.y, .int .i64 u.t] 23)), w' = x.val) (by kernel_rfl) (by kernel_rfl) ⟨⟨_, (Below.refl _ _).drew⟩, rfl⟩ ?_
      repeat (go_big_quiet_step ((first
        | (go_at_call 89; exact after_of nB _ (Hg1.out _ (tl.after nB _) (tm.after nB _)))
        | (go_at_call 90; exact after_of nB _ (Hed.out _)))))
      refine wpQuiet_nil ?_
      intro _ hw'
      obtain ⟨⟨wz, hz⟩, hw''⟩ := hw'
      dsimp only at hw''
      subst hw''
      go_wp2_with fail
      refine wp_region_class_lit (C := fun w' => ∃ x : After (w.heap.size + 1) (w.alloc (.cells #[.int .i64 u.l, .int .i64 u.d, .int .i64 u.y, .int .i64 u.t] 23)), w' = x.val) (by kernel_rfl) (by kernel_rfl) ⟨⟨_, hz.drew⟩, rfl⟩ ?_
      repeat (go_big_quiet_step ((first
        | (go_at_call 89; exact after_of nB _ (Hg2.out _ (tl.after nB _) (tm.after nB _)))
        | (go_at_call 90; exact after_of nB _ (Hed.out _)))))
      refine wpQuiet_nil ?_
      intro _ hw'
      obtain ⟨⟨wz, hz⟩, hw''⟩ := hw'
      dsimp only at hw''
      subst hw''
      go_wp2
      go_ret
      exact ⟨ret_int (by simp only [namesV, hE, hv]; rfl), hbw.trans (hz.mono (by omega))⟩

set_option maxRecDepth 100000 in
set_option maxHeartbeats 4000000 in
theorem refNames_swap (u : Rul) (l m : List ByteArray) (A A' : Option Addr) (c c' : Nat) (w : World) (hA : Strs w w.heap.size A l) (hA' : Strs w w.heap.size A' m) (hl : l.length ≤ 5) (hm : m.length ≤ 5) (hc : l.length ≤ c) (hc' : m.length ≤ c') (wl : Wordy l) (wm : Wordy m) (pl : 0 < l.length) (pm : 0 < m.length) (hsw : (l.length : Int) < (m.length : Int)) :
    Calls Tryz.prog 62 #[.agg #[.int .i64 u.l, .int .i64 u.d, .int .i64 u.y, .int .i64 u.t], .slice A' m.length c', .slice A l.length c] w fun e w' => e = .returned (.int .u8 (namesF u.l l m)) ∧ Below w.heap.size w w' := by
  have hsl := fun W => run_tail Tryz.underlying42 stringSize A l c pl W
  have hsm := fun W => run_tail Tryz.underlying42 stringSize A' m c' pm W
  have tl := (hA.tail hc).below ((Below.refl _ _).alloc (Nat.le_refl _) (.cells #[.int .i64 u.l, .int .i64 u.d, .int .i64 u.y, .int .i64 u.t] 23)) |>.more (show w.heap.size ≤ w.heap.size + 1 by omega)
  have tm := (hA'.tail hc').below ((Below.refl _ _).alloc (Nat.le_refl _) (.cells #[.int .i64 u.l, .int .i64 u.d, .int .i64 u.y, .int .i64 u.t] 23)) |>.more (show w.heap.size ≤ w.heap.size + 1 by omega)
  have wx := wl.at pl
  have wy := wm.at pm
  have hlt : l.tail.length ≤ maxLen := by simp [maxLen]; omega
  have hmt : m.tail.length ≤ maxLen := by simp [maxLen]; omega
  rw [namesF_B u.l l m pl pm]
  obtain ⟨b, off, rfl, hb, hx, _⟩ := (hA.alloc (Nat.le_refl _) (.cells #[.int .i64 u.l, .int .i64 u.d, .int .i64 u.y, .int .i64 u.t] 23)) 0 pl
  obtain ⟨b', off', rfl, hb', hy, _⟩ := (hA'.alloc (Nat.le_refl _) (.cells #[.int .i64 u.l, .int .i64 u.d, .int .i64 u.y, .int .i64 u.t] 23)) 0 pm
  rw [Nat.add_zero] at hx hy
  generalize l[0] = x at hx wx ⊢
  generalize m[0] = y at hy wy ⊢
  have Hed := Lib.hid (fun W => refEdits_any x y W wx.2 wy.2)
  have Hg1 := Lib.hid (fun W h1 h2 => given_any l.tail m.tail (tailA (some ⟨b, off, none⟩) c) (tailA (some ⟨b', off', none⟩) c') (c - 1) (c' - 1) (-1) W h1 h2 hlt hmt wl.tail wm.tail)
  have Hg2 := Lib.hid (fun W h1 h2 => given_any l.tail m.tail (tailA (some ⟨b, off, none⟩) c) (tailA (some ⟨b', off', none⟩) c') (c - 1) (c' - 1) u.l W h1 h2 hlt hmt wl.tail wm.tail)
  simp only [List.length_tail] at Hg1 Hg2 hsl hsm
  generalize (lev x.data.toList y.data.toList : Int) = v at Hed ⊢
  generalize tailA (some ⟨b, off, none⟩) c = T at *
  generalize tailA (some ⟨b', off', none⟩) c' = T' at *
  generalize subs (fitL (-1)) l.tail m.tail = s1 at Hg1 ⊢
  generalize subs (fitL u.l) l.tail m.tail = s2 at Hg2 ⊢
  have h0l : (0 : Int) < (l.length : Int) := by omega
  have h0m : (0 : Int) < (m.length : Int) := by omega
  have nB : w.heap.size + 1 ≤ (w.alloc (.cells #[.int .i64 u.l, .int .i64 u.d, .int .i64 u.y, .int .i64 u.t] 23)).heap.size := by simp
  have cx := After.cell (B := w.heap.size + 1) hx (by omega)
  have cy := After.cell (B := w.heap.size + 1) hy (by omega)
  have cu := After.cells (B := w.heap.size + 1) (w := (w.alloc (.cells #[.int .i64 u.l, .int .i64 u.d, .int .i64 u.y, .int .i64 u.t] 23))) (g := w.heap.size) (cs := #[.int .i64 u.l, .int .i64 u.d, .int .i64 u.y, .int .i64 u.t]) (fun i => World.cell?_alloc_new _ _ _ i) (by omega)
  have hbw : Below w.heap.size w (w.alloc (.cells #[.int .i64 u.l, .int .i64 u.d, .int .i64 u.y, .int .i64 u.t] 23)) := (Below.refl _ _).alloc (Nat.le_refl _) _
  clear hA hA' hlt hmt wx wy wl wm
  cases hE : (x.toList == y.toList) with
  | true =>
    cases s1 with
    | true =>
      go_enter Tryz.func62, Tryz.ntmps62
      go_wp2_with fail
      refine wp_region_class_lit (C := fun w' => ∃ x : After (w.heap.size + 1) (w.alloc (.cells #[.int .i64 u.l, .int .i64 u.d, .int .i64 u.y, .int .i64 u.t] 23)), w' = x.val) (by kernel_rfl) (by kernel_rfl) ⟨⟨_, (Below.refl _ _).drew⟩, rfl⟩ ?_
      repeat (go_big_quiet_step ((first
        | (go_at_call 89; exact after_of nB _ (Hg1.out _ (tl.after nB _) (tm.after nB _)))
        | (go_at_call 90; exact after_of nB _ (Hed.out _)))))
      refine wpQuiet_nil ?_
      intro _ hw'
      obtain ⟨⟨wz, hz⟩, hw''⟩ := hw'
      dsimp only at hw''
      subst hw''
      go_wp2
      go_ret
      exact ⟨ret_int (by simp only [namesV, hE]; rfl), hbw.trans (hz.mono (by omega))⟩
    | false =>
      cases hv : decide (v ≤ u.l) with
      | true =>
        cases s2 with
        | true =>
          go_enter Tryz.func62, Tryz.ntmps62
          go_wp2_with fail
          refine wp_region_class_lit (C := fun w' => ∃ x : After (w.heap.size + 1) (w.alloc (.cells #[.int .i64 u.l, .int .i64 u.d, .int .i64 u.y, .int .i64 u.t] 23)), w' = x.val) (by kernel_rfl) (by kernel_rfl) ⟨⟨_, (Below.refl _ _).drew⟩, rfl⟩ ?_
          repeat (go_big_quiet_step ((first
            | (go_at_call 89; exact after_of nB _ (Hg1.out _ (tl.after nB _) (tm.after nB _)))
            | (go_at_call 90; exact after_of nB _ (Hed.out _)))))
          refine wpQuiet_nil ?_
          intro _ hw'
          obtain ⟨⟨wz, hz⟩, hw''⟩ := hw'
          dsimp only at hw''
          subst hw''
          go_wp2_with fail
          refine wp_region_class_lit (C := fun w' => ∃ x : After (w.heap.size + 1) (w.alloc (.cells #[.int .i64 u.l, .int .i64 u.d, .int .i64 u.y, .int .i64 u.t] 23)), w' = x.val) (by kernel_rfl) (by kernel_rfl) ⟨⟨_, hz.drew⟩, rfl⟩ ?_
          repeat (go_big_quiet_step ((first
            | (go_at_call 89; exact after_of nB _ (Hg2.out _ (tl.after nB _) (tm.after nB _)))
            | (go_at_call 90; exact after_of nB _ (Hed.out _)))))
          refine wpQuiet_nil ?_
          intro _ hw'
          obtain ⟨⟨wz, hz⟩, hw''⟩ := hw'
          dsimp only at hw''
          subst hw''
          go_wp2
          go_ret
          exact ⟨ret_int (by simp only [namesV, hE, hv]; rfl), hbw.trans (hz.mono (by omega))⟩
        | false =>
          go_enter Tryz.func62, Tryz.ntmps62
          go_wp2_with fail
          refine wp_region_class_lit (C := fun w' => ∃ x : After (w.heap.size + 1) (w.alloc (.cells #[.int .i64 u.l, .int .i64 u.d, .int .i64 u.y, .int .i64 u.t] 23)), w' = x.val) (by kernel_rfl) (by kernel_rfl) ⟨⟨_, (Below.refl _ _).drew⟩, rfl⟩ ?_
          repeat (go_big_quiet_step ((first
            | (go_at_call 89; exact after_of nB _ (Hg1.out _ (tl.after nB _) (tm.after nB _)))
            | (go_at_call 90; exact after_of nB _ (Hed.out _)))))
          refine wpQuiet_nil ?_
          intro _ hw'
          obtain ⟨⟨wz, hz⟩, hw''⟩ := hw'
          dsimp only at hw''
          subst hw''
          go_wp2_with fail
          refine wp_region_class_lit (C := fun w' => ∃ x : After (w.heap.size + 1) (w.alloc (.cells #[.int .i64 u.l, .int .i64 u.d, .int .i64 u.y, .int .i64 u.t] 23)), w' = x.val) (by kernel_rfl) (by kernel_rfl) ⟨⟨_, hz.drew⟩, rfl⟩ ?_
          repeat (go_big_quiet_step ((first
            | (go_at_call 89; exact after_of nB _ (Hg2.out _ (tl.after nB _) (tm.after nB _)))
            | (go_at_call 90; exact after_of nB _ (Hed.out _)))))
          refine wpQuiet_nil ?_
          intro _ hw'
          obtain ⟨⟨wz, hz⟩, hw''⟩ := hw'
          dsimp only at hw''
          subst hw''
          go_wp2
          go_ret
          exact ⟨ret_int (by simp only [namesV, hE, hv]; rfl), hbw.trans (hz.mono (by omega))⟩
      | false =>
        go_enter Tryz.func62, Tryz.ntmps62
        go_wp2_with fail
        refine wp_region_class_lit (C := fun w' => ∃ x : After (w.heap.size + 1) (w.alloc (.cells #[.int .i64 u.l, .int .i64 u.d, .int .i64 u.y, .int .i64 u.t] 23)), w' = x.val) (by kernel_rfl) (by kernel_rfl) ⟨⟨_, (Below.refl _ _).drew⟩, rfl⟩ ?_
        repeat (go_big_quiet_step ((first
          | (go_at_call 89; exact after_of nB _ (Hg1.out _ (tl.after nB _) (tm.after nB _)))
          | (go_at_call 90; exact after_of nB _ (Hed.out _)))))
        refine wpQuiet_nil ?_
        intro _ hw'
        obtain ⟨⟨wz, hz⟩, hw''⟩ := hw'
        dsimp only at hw''
        subst hw''
        go_wp2_with fail
        refine wp_region_class_lit (C := fun w' => ∃ x : After (w.heap.size + 1) (w.alloc (.cells #[.int .i64 u.l, .int .i64 u.d, .int .i64 u.y, .int .i64 u.t] 23)), w' = x.val) (by kernel_rfl) (by kernel_rfl) ⟨⟨_, hz.drew⟩, rfl⟩ ?_
        repeat (go_big_quiet_step ((first
          | (go_at_call 89; exact after_of nB _ (Hg2.out _ (tl.after nB _) (tm.after nB _)))
          | (go_at_call 90; exact after_of nB _ (Hed.out _)))))
        refine wpQuiet_nil ?_
        intro _ hw'
        obtain ⟨⟨wz, hz⟩, hw''⟩ := hw'
        dsimp only at hw''
        subst hw''
        go_wp2
        go_ret
        exact ⟨ret_int (by simp only [namesV, hE, hv]; rfl), hbw.trans (hz.mono (by omega))⟩
  | false =>
    cases hv : decide (v ≤ u.l) with
    | true =>
      cases s2 with
      | true =>
        go_enter Tryz.func62, Tryz.ntmps62
        go_wp2_with fail
        refine wp_region_class_lit (C := fun w' => ∃ x : After (w.heap.size + 1) (w.alloc (.cells #[.int .i64 u.l, .int .i64 u.d, .int .i64 u.y, .int .i64 u.t] 23)), w' = x.val) (by kernel_rfl) (by kernel_rfl) ⟨⟨_, (Below.refl _ _).drew⟩, rfl⟩ ?_
        repeat (go_big_quiet_step ((first
          | (go_at_call 89; exact after_of nB _ (Hg1.out _ (tl.after nB _) (tm.after nB _)))
          | (go_at_call 90; exact after_of nB _ (Hed.out _)))))
        refine wpQuiet_nil ?_
        intro _ hw'
        obtain ⟨⟨wz, hz⟩, hw''⟩ := hw'
        dsimp only at hw''
        subst hw''
        go_wp2_with fail
        refine wp_region_class_lit (C := fun w' => ∃ x : After (w.heap.size + 1) (w.alloc (.cells #[.int .i64 u.l, .int .i64 u.d, .int .i64 u.y, .int .i64 u.t] 23)), w' = x.val) (by kernel_rfl) (by kernel_rfl) ⟨⟨_, hz.drew⟩, rfl⟩ ?_
        repeat (go_big_quiet_step ((first
          | (go_at_call 89; exact after_of nB _ (Hg2.out _ (tl.after nB _) (tm.after nB _)))
          | (go_at_call 90; exact after_of nB _ (Hed.out _)))))
        refine wpQuiet_nil ?_
        intro _ hw'
        obtain ⟨⟨wz, hz⟩, hw''⟩ := hw'
        dsimp only at hw''
        subst hw''
        go_wp2
        go_ret
        exact ⟨ret_int (by simp only [namesV, hE, hv]; rfl), hbw.trans (hz.mono (by omega))⟩
      | false =>
        go_enter Tryz.func62, Tryz.ntmps62
        go_wp2_with fail
        refine wp_region_class_lit (C := fun w' => ∃ x : After (w.heap.size + 1) (w.alloc (.cells #[.int .i64 u.l, .int .i64 u.d, .int .i64 u.y, .int .i64 u.t] 23)), w' = x.val) (by kernel_rfl) (by kernel_rfl) ⟨⟨_, (Below.refl _ _).drew⟩, rfl⟩ ?_
        repeat (go_big_quiet_step ((first
          | (go_at_call 89; exact after_of nB _ (Hg1.out _ (tl.after nB _) (tm.after nB _)))
          | (go_at_call 90; exact after_of nB _ (Hed.out _)))))
        refine wpQuiet_nil ?_
        intro _ hw'
        obtain ⟨⟨wz, hz⟩, hw''⟩ := hw'
        dsimp only at hw''
        subst hw''
        go_wp2_with fail
        refine wp_region_class_lit (C := fun w' => ∃ x : After (w.heap.size + 1) (w.alloc (.cells #[.int .i64 u.l, .int .i64 u.d, .int .i64 u.y, .int .i64 u.t] 23)), w' = x.val) (by kernel_rfl) (by kernel_rfl) ⟨⟨_, hz.drew⟩, rfl⟩ ?_
        repeat (go_big_quiet_step ((first
          | (go_at_call 89; exact after_of nB _ (Hg2.out _ (tl.after nB _) (tm.after nB _)))
          | (go_at_call 90; exact after_of nB _ (Hed.out _)))))
        refine wpQuiet_nil ?_
        intro _ hw'
        obtain ⟨⟨wz, hz⟩, hw''⟩ := hw'
        dsimp only at hw''
        subst hw''
        go_wp2
        go_ret
        exact ⟨ret_int (by simp only [namesV, hE, hv]; rfl), hbw.trans (hz.mono (by omega))⟩
    | false =>
      go_enter Tryz.func62, Tryz.ntmps62
      go_wp2_with fail
      refine wp_region_class_lit (C := fun w' => ∃ x : After (w.heap.size + 1) (w.alloc (.cells #[.int .i64 u.l, .int .i64 u.d, .int .i64 u.y, .int .i64 u.t] 23)), w' = x.val) (by kernel_rfl) (by kernel_rfl) ⟨⟨_, (Below.refl _ _).drew⟩, rfl⟩ ?_
      repeat (go_big_quiet_step ((first
        | (go_at_call 89; exact after_of nB _ (Hg1.out _ (tl.after nB _) (tm.after nB _)))
        | (go_at_call 90; exact after_of nB _ (Hed.out _)))))
      refine wpQuiet_nil ?_
      intro _ hw'
      obtain ⟨⟨wz, hz⟩, hw''⟩ := hw'
      dsimp only at hw''
      subst hw''
      go_wp2_with fail
      refine wp_region_class_lit (C := fun w' => ∃ x : After (w.heap.size + 1) (w.alloc (.cells #[.int .i64 u.l, .int .i64 u.d, .int .i64 u.y, .int .i64 u.t] 23)), w' = x.val) (by kernel_rfl) (by kernel_rfl) ⟨⟨_, hz.drew⟩, rfl⟩ ?_
      repeat (go_big_quiet_step ((first
        | (go_at_call 89; exact after_of nB _ (Hg2.out _ (tl.after nB _) (tm.after nB _)))
        | (go_at_call 90; exact after_of nB _ (Hed.out _)))))
      refine wpQuiet_nil ?_
      intro _ hw'
      obtain ⟨⟨wz, hz⟩, hw''⟩ := hw'
      dsimp only at hw''
      subst hw''
      go_wp2
      go_ret
      exact ⟨ret_int (by simp only [namesV, hE, hv]; rfl), hbw.trans (hz.mono (by omega))⟩

theorem refNames_any (u : Rul) (l m : List ByteArray) (A A' : Option Addr) (c c' : Nat) (w : World) (hA : Strs w w.heap.size A l) (hA' : Strs w w.heap.size A' m) (hl : l.length ≤ 5) (hm : m.length ≤ 5) (hc : l.length ≤ c) (hc' : m.length ≤ c') (wl : Wordy l) (wm : Wordy m) (pl : 0 < l.length) (pm : 0 < m.length) :
    Calls Tryz.prog 62 #[.agg #[.int .i64 u.l, .int .i64 u.d, .int .i64 u.y, .int .i64 u.t], .slice A l.length c, .slice A' m.length c'] w fun e w' => e = .returned (.int .u8 (namesS u.l l m)) ∧ Below w.heap.size w w' := by
  unfold namesS
  by_cases h : m.length < l.length
  · rw [if_pos h]
    exact refNames_swap u m l A' A c' c w hA' hA hm hl hc' hc wm wl pm pl (by omega)
  · rw [if_neg h]
    exact refNames_plain u l m A A' c c' w hA hA' hl hm hc hc' wl wm pl pm (by omega)

end Go.Proofs.YtbkmfomdhjhkpaaGreat
