/- What the program hears: reports until a day, less those that are withdrawn, with the corrections that work. -/
import Derived.Test.YtkpaikampmeooaaGreatDoorTCardP7
import Derived.Test.YtkpaikampmeooaaGreatDoorAChkP
import Derived.Test.YtkpaikampmeooaaGreatDoorTCardP4
import Derived.Test.YtkpaikampmeooaaGreatDoorTCardP6
import Derived.Test.YtkpaikampmeooaaGreatDoorTCardP3

namespace Go.Proofs.YtkpaikampmeooaaGreatDoor
open Go.RowKit Go.Maps

theorem knWf_of {l : List Rep} (h : checkV l = 0) (d : Int) : KnWf (knownL l d) := by
  obtain ⟨_, h2, _⟩ := checkV_zero.1 h
  have hs := knownL_spec (d := d) l
  refine ⟨fun r hr => WalkArith.wf_i64 (by have := (validB_parts (h2 r (hs.2.1 r hr).1)).1; omega), fun r hr => WalkArith.wf_i64 ?_⟩
  have hv := h2 r (hs.2.1 r hr).1
  unfold validB at hv
  simp only [Bool.and_eq_true] at hv
  have hq := hv.2
  by_cases h7 : r.kind ≤ 7
  · rw [if_pos h7] at hq
    simp only [Bool.and_eq_true, decide_eq_true_eq] at hq
    omega
  · rw [if_neg h7] at hq
    simp only [Bool.and_eq_true, inN_iff] at hq
    omega
abbrev noKnow : Value := .agg #[.map none, .map none, .map none, .map none]
/-- What hear hands over where all is well. -/
structure Heard (w w' : World) (K : List Rep) (m0 m1 m2 m3 : Nat) : Prop where
  kn : KN w' m0 m1 m2 m3 8000 (repF (leftL K)) (wdMV K) (coMV K) (wkA K)
  below : Below w.heap.size w w'

set_option maxRecDepth 100000 in
set_option maxHeartbeats 2000000 in
theorem hear_bad (l : List Rep) (A : Option Addr) (c : Nat) (d : Int) (w : World) (h : Reps w w.heap.size A l) (hN : NeedsAt w) (hl : l.length ≤ 1000) (hwf : ∀ r ∈ l, RepWf r) (hc : checkV l ≠ 0) :
    Calls Tryz.prog 54 #[.slice A l.length c, .int .i64 d] w fun e w' => e = .returned (.tuple #[noKnow, .int .i64 (checkV l)]) ∧ Below w.heap.size w w' := by
  have b1 := (Below.refl w.heap.size w).alloc (Nat.le_refl _) (.cells #[.map none, .map none, .map none, .map none] 109)
  have k1 := Blk.new w #[.map none, .map none, .map none, .map none] 109
  have HC := Lib.hid (check_any l A c _ (h.later b1) (hN.later b1) (by unfold maxLen; omega) hwf)
  have hc0 : (checkV l != 0) = true := by simpa using hc
  generalize checkV l = z at *
  clear hc h hN hwf
  go_enter Tryz.func54, Tryz.ntmps54
  go_upto_region 3 with (go_at_call 74; (with_reducible refine (HC.out).mono ?_); rintro e w2 ⟨rfl, h2⟩)
  have k2 := k1.below h2 k1.lt
  have c2 := k2.cell
  have f2 := k2.free
  have hb := b1.trans (h2.mono b1.size)
  go_wp2_with fail
  have hrc := ((((k2.set 0 (.map none)).set 1 (.map none)).set 2 (.map none)).set 3 (.map none)).cell
  exact bodyPost_ret (v := .tuple #[noKnow, .int .i64 z]) (by simp [results, Tryz.results54, go_sem, hrc]) rfl ⟨rfl, (((hb.setCell (p := ⟨w.heap.size, 0, none⟩) (Nat.le_refl _) _).setCell (p := ⟨w.heap.size, 1, none⟩) (Nat.le_refl _) _).setCell (p := ⟨w.heap.size, 2, none⟩) (Nat.le_refl _) _).setCell (p := ⟨w.heap.size, 3, none⟩) (Nat.le_refl _) _⟩

set_option maxRecDepth 100000 in
set_option maxHeartbeats 2000000 in
theorem hear_arg (l : List Rep) (A : Option Addr) (c : Nat) (d : Int) (w : World) (h : Reps w w.heap.size A l) (hN : NeedsAt w) (hl : l.length ≤ 1000) (hwf : ∀ r ∈ l, RepWf r) (hc : checkV l = 0) (hd : inN d 0 100000 = false) :
    Calls Tryz.prog 54 #[.slice A l.length c, .int .i64 d] w fun e w' => e = .returned (.tuple #[noKnow, .int .i64 2]) ∧ Below w.heap.size w w' := by
  have b1 := (Below.refl w.heap.size w).alloc (Nat.le_refl _) (.cells #[.map none, .map none, .map none, .map none] 109)
  have k1 := Blk.new w #[.map none, .map none, .map none, .map none] 109
  have HC := Lib.hid (hc ▸ check_any l A c _ (h.later b1) (hN.later b1) (by unfold maxLen; omega) hwf)
  have HW := Lib.hid (fun W => hd ▸ withinP_any d 0 100000 W)
  clear hc h hN hwf hd
  go_enter Tryz.func54, Tryz.ntmps54
  go_upto_region 5 with (first
    | (go_at_call 74; (with_reducible refine (HC.out).mono ?_); rintro e w2 ⟨rfl, h2⟩)
    | (go_at_call 75; (with_reducible refine (HW.out _).mono ?_); rintro e w3 ⟨rfl, rfl⟩))
  have k2 := k1.below h2 k1.lt
  have c2 := k2.cell
  have f2 := k2.free
  have hb := b1.trans (h2.mono b1.size)
  go_wp2_with fail
  have hrc := ((((k2.set 0 (.map none)).set 1 (.map none)).set 2 (.map none)).set 3 (.map none)).cell
  exact bodyPost_ret (v := .tuple #[noKnow, .int .i64 2]) (by simp [results, Tryz.results54, go_sem, hrc]) rfl ⟨rfl, (((hb.setCell (p := ⟨w.heap.size, 0, none⟩) (Nat.le_refl _) _).setCell (p := ⟨w.heap.size, 1, none⟩) (Nat.le_refl _) _).setCell (p := ⟨w.heap.size, 2, none⟩) (Nat.le_refl _) _).setCell (p := ⟨w.heap.size, 3, none⟩) (Nat.le_refl _) _⟩

set_option maxRecDepth 100000 in
set_option maxHeartbeats 4000000 in
theorem hear_ok (l : List Rep) (A : Option Addr) (c : Nat) (d : Int) (w : World) (h : Reps w w.heap.size A l) (hN : NeedsAt w) (hl : l.length ≤ 1000) (hwf : ∀ r ∈ l, RepWf r) (hc : checkV l = 0) (hd : inN d 0 100000 = true) :
    Calls Tryz.prog 54 #[.slice A l.length c, .int .i64 d] w fun e w' => ∃ m0 m1 m2 m3, e = .returned (.tuple #[knowV m0 m1 m2 m3, .int .i64 0]) ∧ Heard w w' (knownL l d) m0 m1 m2 m3 := by
  have hmm := @run_makeMap Tryz.prog
  have b1 := (Below.refl w.heap.size w).alloc (Nat.le_refl _) (.cells #[.map none, .map none, .map none, .map none] 109)
  have k1 := Blk.new w #[.map none, .map none, .map none, .map none] 109
  have HC := Lib.hid (hc ▸ check_any l A c _ (h.later b1) (hN.later b1) (by unfold maxLen; omega) hwf)
  have HW := Lib.hid (fun W => hd ▸ withinP_any d 0 100000 W)
  have h60 := (checkV_zero.1 hc).1
  have HS := Lib.hid (fun W hh => newStore_any l A c d W hh hl (fun r hr => (hwf r hr).id) (checkV_zero.1 hc).2.2)
  have HK := Lib.hid (knOk_of hc d)
  have HKW := Lib.hid (knWf_of hc d)
  have HN := Lib.hid hN
  have hB0 : 0 < w.heap.size := hN.1
  have Hb1 := Lib.hid b1
  have Hk1 := Lib.hid k1
  have Hh := Lib.hid (h.later b1)
  clear hc h hwf hd hN b1 k1
  go_enter Tryz.func54, Tryz.ntmps54
  go_upto_region 7 with (first
    | (go_at_call 74; (with_reducible refine (HC.out).mono ?_); rintro e w2 ⟨rfl, h2⟩; have HS2 := Lib.hid (HS.out w2 (Hh.out.later h2)))
    | (go_at_call 75; (with_reducible refine (HW.out _).mono ?_); rintro e w3 ⟨rfl, rfl⟩)
    | (go_at_call 76; (with_reducible refine (HS2.out).mono ?_); rintro e w4 ⟨rfl, hM, h4⟩))
  have hb2 := Hb1.out.trans (h2.mono Hb1.out.size)
  have hb4 := hb2.trans (h4.mono hb2.size)
  have hm0 := hM.lt
  have hz2 := hb2.size
  generalize hw2 : w2.heap.size = s2 at *
  have k4 := (Hk1.out.below h2 Hk1.out.lt).below h4 (by have := (Hk1.out.below h2 Hk1.out.lt).lt; omega)
  have q1 := (MapFn.made w4 Tryz.prog 3)
  have q2 := (MapFn.made (w4.alloc (.map #[] 0)) Tryz.prog 3)
  have q3 := (MapFn.made ((w4.alloc (.map #[] 0)).alloc (.map #[] 0)) Tryz.prog 3)
  simp only [World.size_alloc] at q2 q3
  have hM4 : M4 w.heap.size (s2 + 1) w4.heap.size (w4.heap.size + 1) (w4.heap.size + 1 + 1) := ⟨by omega, by omega, by omega, by omega⟩
  have hKN : KN ((((w4.alloc (.map #[] 0)).alloc (.map #[] 0)).alloc (.map #[] 0)).alloc (.cells #[.map (some (s2 + 1)), .map (some w4.heap.size), .map (some (w4.heap.size + 1)), .map (some (w4.heap.size + 1 + 1))] 109)) (s2 + 1) w4.heap.size (w4.heap.size + 1) (w4.heap.size + 1 + 1) l.length (repF (knownL l d)) noM noM noM := by
    have e0 : repG (knownL l d) = intG (repF (knownL l d)) := repG_eq _
    have e1 : intG noM = fun _ => none := intG_nil
    refine ⟨?_, ?_, ?_, ?_⟩
    · rw [← e0]; exact (((hM.alloc _).alloc _).alloc _).alloc _
    · rw [e1]; exact (((q1.alloc _).alloc _).alloc _).mono (Nat.zero_le _)
    · rw [e1]; exact ((q2.alloc _).alloc _).mono (Nat.zero_le _)
    · rw [e1]; exact (q3.alloc _).mono (Nat.zero_le _)
  have hbx : Below w.heap.size w ((((w4.alloc (.map #[] 0)).alloc (.map #[] 0)).alloc (.map #[] 0)).alloc (.cells #[.map (some (s2 + 1)), .map (some w4.heap.size), .map (some (w4.heap.size + 1)), .map (some (w4.heap.size + 1 + 1))] 109)) := (((hb4.alloc hb4.size _).alloc (by have := hb4.size; simp; omega) _).alloc (by have := hb4.size; simp; omega) _).alloc (by have := hb4.size; simp; omega) _
  have kt4 := (((k4.alloc (.map #[] 0)).alloc (.map #[] 0)).alloc (.map #[] 0)).alloc (.cells #[.map (some (s2 + 1)), .map (some w4.heap.size), .map (some (w4.heap.size + 1)), .map (some (w4.heap.size + 1 + 1))] 109)
  have kt7 := Blk.new (((w4.alloc (.map #[] 0)).alloc (.map #[] 0)).alloc (.map #[] 0)) #[.map (some (s2 + 1)), .map (some w4.heap.size), .map (some (w4.heap.size + 1)), .map (some (w4.heap.size + 1 + 1))] 109
  simp only [World.size_alloc] at kt7
  clear q1 q2 q3 hM h4 h2 hb2 hb4 k4 HC HS HS2 HW Hb1 Hk1 Hh hmm
  generalize ((((w4.alloc (.map #[] 0)).alloc (.map #[] 0)).alloc (.map #[] 0)).alloc (.cells #[.map (some (s2 + 1)), .map (some w4.heap.size), .map (some (w4.heap.size + 1)), .map (some (w4.heap.size + 1 + 1))] 109)) = V at *
  generalize hg4 : w4.heap.size = s4 at *
  have HWd := Lib.hid (withdraw_any w.heap.size (s2 + 1) s4 (s4 + 1) (s4 + 1 + 1) l.length (knownL l d) V hM4 hKN HK.out HKW.out hbx.size hl)
  have HM4 := Lib.hid hM4
  have Hbx := Lib.hid hbx
  have Hk4 := Lib.hid kt4
  have Hk7 := Lib.hid kt7
  have c7 := kt7.cell
  clear hM4 hKN hbx kt4 kt7 hg4
  go_upto_region 9 with (first
    | (go_at_call 77; (with_reducible refine (HWd.out).mono ?_); rintro e w5 ⟨rfl, hK5, hs5⟩; have c75 := (Hk7.out.step hs5).cell; have HCo := Lib.hid (correct_any w.heap.size (s2 + 1) s4 (s4 + 1) (s4 + 1 + 1) (l.length + 2000) (knownL l d) w5 HM4.out hK5 HK.out HKW.out ((HN.out.below Hbx.out hB0).step hs5 hB0) hB0 (Hbx.out.trans hs5.below).size (by omega)))
    | (go_at_call 78; (with_reducible refine (HCo.out).mono ?_); rintro e w6 ⟨rfl, hK6, hs6⟩))
  have hs := hs5.trans hs6
  have c76 := (Hk7.out.step hs).cell
  have k46 := Hk4.out.step hs
  have c46 := k46.cell
  have f46 := k46.free
  have hb6 := Hbx.out.trans hs.below
  have HF := Lib.hid (hK6.mono (n' := 8000) (by omega))
  clear hK5 hK6 hs5 hs6 hs
  go_wp2_with fail
  have hrc := ((((k46.set 0 (.map (some (s2 + 1)))).set 1 (.map (some s4))).set 2 (.map (some (s4 + 1)))).set 3 (.map (some (s4 + 1 + 1)))).cell
  refine bodyPost_ret (v := .tuple #[knowV (s2 + 1) s4 (s4 + 1) (s4 + 1 + 1), .int .i64 0]) (by simp [results, Tryz.results54, go_sem, hrc]) rfl ⟨s2 + 1, s4, s4 + 1, s4 + 1 + 1, rfl, ?_, (((hb6.setCell (p := ⟨w.heap.size, 0, none⟩) (Nat.le_refl _) _).setCell (p := ⟨w.heap.size, 1, none⟩) (Nat.le_refl _) _).setCell (p := ⟨w.heap.size, 2, none⟩) (Nat.le_refl _) _).setCell (p := ⟨w.heap.size, 3, none⟩) (Nat.le_refl _) _⟩
  obtain ⟨r0, r1, r2, r3⟩ := HF.out
  have hM := HM4.out
  obtain ⟨_, _, _, _⟩ := hM
  have q : ∀ {m G}, w.heap.size < m → MapFn w6 Tryz.prog 3 m 8000 G → MapFn ((((w6.setCell ⟨w.heap.size, 0, none⟩ (.map (some (s2 + 1)))).setCell ⟨w.heap.size, 1, none⟩ (.map (some s4))).setCell ⟨w.heap.size, 2, none⟩ (.map (some (s4 + 1)))).setCell ⟨w.heap.size, 3, none⟩ (.map (some (s4 + 1 + 1)))) Tryz.prog 3 m 8000 G := fun {m G} hm hh =>
    (((hh.setCell (a := ⟨w.heap.size, 0, none⟩) (by show m ≠ w.heap.size; omega) _).setCell (a := ⟨w.heap.size, 1, none⟩) (by show m ≠ w.heap.size; omega) _).setCell (a := ⟨w.heap.size, 2, none⟩) (by show m ≠ w.heap.size; omega) _).setCell (a := ⟨w.heap.size, 3, none⟩) (by show m ≠ w.heap.size; omega) _
  exact ⟨q (by omega) r0, q (by omega) r1, q (by omega) r2, q (by omega) r3⟩

end Go.Proofs.YtkpaikampmeooaaGreatDoor

namespace Go.Proofs.YtkpaikampmeooaaGreatDoor
open Go.RowKit Go.Maps

/-- What has been noted of some. -/
def outP (K ps : List Rep) : List Rep := (ps.filter fun r => decide (r.kind ≤ 7)).map (standOf K)
theorem outP_fact {K ps : List Rep} {r : Rep} (h : r.kind ≤ 7) : outP K (ps ++ [r]) = outP K ps ++ [standOf K r] := by
  unfold outP
  rw [List.filter_append, List.map_append, List.filter_cons_of_pos (by simpa using h)]; rfl
theorem outP_not {K ps : List Rep} {r : Rep} (h : ¬ r.kind ≤ 7) : outP K (ps ++ [r]) = outP K ps := by
  unfold outP
  rw [List.filter_append, List.map_append, List.filter_cons_of_neg (by simpa using h)]; simp
theorem outP_le (K ps : List Rep) : (outP K ps).length ≤ ps.length := by
  unfold outP
  rw [List.length_map]
  exact List.length_filter_le _ _
theorem outP_end {K ps : List Rep} (hp : ps.Perm (leftL K)) : (outP K ps).Perm (standS K) := by
  unfold outP standS
  refine List.Perm.map _ ?_
  have e : K.filter (factB K) = (leftL K).filter fun r => decide (r.kind ≤ 7) := by
    unfold leftL
    rw [List.filter_filter]
    rfl
  rw [e]
  exact hp.filter _
theorem standL_of {K l' zs : List Rep} (hn : (K.map Rep.id).Nodup) (hp : l'.Perm zs) (hz : zs.Perm (standS K)) (hs : l'.Pairwise leA) : l' = standL K := by
  refine standL_eq hn (hp.trans hz) ?_
  have h2 : (l'.map Rep.id).Nodup := ((hp.trans hz).map Rep.id).nodup_iff.2 (standS_nodup hn)
  have h3 : l'.Pairwise fun a b => a.id ≠ b.id := List.pairwise_map.1 h2
  refine (hs.and h3).imp fun {a b} h => ?_
  obtain ⟨h4, h5⟩ := h
  rw [beforeB_iff]
  rcases h4 with h4 | ⟨h4, h6⟩
  · exact .inl h4
  · exact .inr ⟨h4, by omega⟩
theorem KN.row {w w' : World} {m0 m1 m2 m3 n base size k : Nat} {f0 f1 f2 f3 : Int → Option Value} {e : TypeId} {v : Value} {xs : List Value} (h : KN w m0 m1 m2 m3 n f0 f1 f2 f3) (hr : w.ownsRow base e size v k xs) (hg : w.grownBy w' v.ownBlock) : KN w' m0 m1 m2 m3 n f0 f1 f2 f3 := by
  rcases hr.2 with ⟨rfl, _⟩ | ⟨g, cap, cur, rfl, _, hb, _⟩
  · exact h.more hg
  · exact h.turn (r := g) hg (fun es c e => by rw [hb] at e; cases e)
theorem Step.row {w w' : World} {base size k : Nat} {e : TypeId} {v : Value} {xs : List Value} (hr : w.ownsRow base e size v k xs) (hg : w.grownBy w' v.ownBlock) {g : Nat} {cs : Array Value} {t : TypeId} (h : Blk w g cs t) (ht : t ≠ e) : Blk w' g cs t := by
  refine h.grown hg (fun e' => ?_)
  rcases hr.2 with ⟨rfl, _⟩ | ⟨g', cap, cur, rfl, _, hb, _⟩
  · simp [Value.ownBlock] at e'
  · have : g = g' := by simpa [Value.ownBlock] using e'
    subst this
    unfold Blk at h
    rw [h] at hb
    injection hb with hb
    injection hb with _ hb _
    exact ht hb
theorem ranges_row {w w' : World} {m r n cnt base size k : Nat} {D : DataW Value} {left : Lit → Bool} {e : TypeId} {v : Value} {xs : List Value} (h : w.ranges Tryz.prog 3 rawElem m r n D left cnt) (hr : w.ownsRow base e size v k xs) (hg : w.grownBy w' v.ownBlock) : w'.ranges Tryz.prog 3 rawElem m r n D left cnt := by
  obtain ⟨o, ho, hoc, _⟩ := ranges_it h
  have hm : ∃ es c, w.heap[m]? = some (.map es c) := by obtain ⟨es, c, _, _, _, h1, _⟩ := h; exact ⟨es, c, h1⟩
  rcases hr.2 with ⟨rfl, _⟩ | ⟨g, cap, cur, rfl, _, hb, _⟩
  · exact h.kept hg (by simp [Value.ownBlock]) (by simp [Value.ownBlock])
  · refine h.kept hg (fun e' => ?_) (fun e' => ?_)
    · obtain ⟨es, c, h1⟩ := hm
      have : m = g := by simpa [Value.ownBlock] using e'
      subst this
      rw [h1] at hb; cases hb
    · have : r = g := by simpa [Value.ownBlock] using e'
      subst this
      rw [ho] at hb; cases hb; cases hoc
theorem grownBy_set (V : World) (g o : Nat) (v : Value) : V.grownBy (V.setCell ⟨g, o, none⟩ v) (some g) :=
  ⟨rfl, rfl, rfl, by simp, fun k _ hne => Below.heap_setCell _ _ _ _ (fun e => hne (by rw [e]))⟩
theorem stand_set {V : World} {g o m0 m1 m2 m3 n n' r hs base size k cnt : Nat} {f0 f1 f2 f3 : Int → Option Value} {D : DataW Value} {left : Lit → Bool} {e t t' : TypeId} {cs cs' : Array Value} {vv : Value} {xs : List Value} (h5 : Blk V g cs t) (hrow : ∀ q, vv.ownBlock = some q → q < g) (hkb : hs < g) (ow : V.ownsRow base e size vv k xs) (kn : KN V m0 m1 m2 m3 n f0 f1 f2 f3) (rg : V.ranges Tryz.prog 3 rawElem m0 r n' D left cnt) (kb : Blk V hs cs' t') (v : Value) :
    (V.setCell ⟨g, o, none⟩ v).ownsRow base e size vv k xs ∧ KN (V.setCell ⟨g, o, none⟩ v) m0 m1 m2 m3 n f0 f1 f2 f3 ∧ (V.setCell ⟨g, o, none⟩ v).ranges Tryz.prog 3 rawElem m0 r n' D left cnt ∧ Blk (V.setCell ⟨g, o, none⟩ v) hs cs' t' := by
  have hg := grownBy_set V g o v
  obtain ⟨ob, ho, hoc, _⟩ := ranges_it rg
  have hm : ∃ es c, V.heap[m0]? = some (.map es c) := by obtain ⟨es, c, _, _, _, h1, _⟩ := rg; exact ⟨es, c, h1⟩
  unfold Blk at h5
  refine ⟨ow.kept hg ?_, kn.turn hg (fun es c e' => by rw [h5] at e'; cases e'), rg.kept hg (fun e' => ?_) (fun e' => ?_), kb.grown hg (fun e' => by have := Option.some.inj e'; omega)⟩
  · cases hv : vv.ownBlock with
    | none => exact .inl rfl
    | some q => exact .inr (fun e' => by have := hrow q hv; have := Option.some.inj e'; omega)
  · obtain ⟨es, c, h1⟩ := hm
    have := Option.some.inj e'
    subst this
    rw [h1] at h5; cases h5
  · have := Option.some.inj e'
    subst this
    rw [ho] at h5; cases h5; cases hoc
/-- Where the facts that stand can be asked for, one after the other. -/
structure StAt (w w' : World) (K : List Rep) (Bs : Nat) (A : Option Addr) (c : Nat) : Prop where
  lt : Bs < w'.heap.size
  cell : w'.cell? ⟨Bs, 0, none⟩ = some (.slice A (standL K).length c)
  reps : Reps w' w'.heap.size A (standL K)
  below : Below w.heap.size w w'

set_option maxRecDepth 100000 in
set_option maxHeartbeats 8000000 in
theorem standingP_any (m0 m1 m2 m3 n : Nat) (K : List Rep) (w : World) (hKN : KN w m0 m1 m2 m3 n (repF (leftL K)) (wdMV K) (coMV K) (wkA K)) (hK : KnOk K) (hwf : KnWf K) :
    Calls Tryz.prog 56 #[knowV m0 m1 m2 m3] w fun e w' => ∃ Bs A c, e = .returned (.func (.func 103) #[] #[.pointer (some ⟨Bs, 0, none⟩)]) ∧ StAt w w' K Bs A c := by
  obtain ⟨i0, hi0, hz0, hz1, hz2⟩ := info_parts repInfo

  have HK := Lib.hid hK
  have HWF := Lib.hid hwf
  have kb := Blk.new w #[.map (some m0), .map (some m1), .map (some m2), .map (some m3)] 109
  have hKN1 := hKN.alloc (.cells #[.map (some m0), .map (some m1), .map (some m2), .map (some m3)] 109)
  have hb1 := (Below.refl w.heap.size w).alloc (Nat.le_refl _) (.cells #[.map (some m0), .map (some m1), .map (some m2), .map (some m3)] 109)
  obtain ⟨D, hownD, hatD⟩ := hKN1.r0
  have hat2 : ∀ kl z, D.atKey kl z = gotAt (repG (leftL K) kl) z := by rw [repG_eq]; exact hatD
  have HatD := Lib.hid hat2
  have hm0l := hKN.r0.lt
  have kc := kb.cell
  have Hkb := Lib.hid kb
  have HKN := Lib.hid hKN1
  have Hb1 := Lib.hid hb1
  clear hK hwf kb hKN1 hKN hatD hat2 hb1
  go_enter Tryz.func56, Tryz.ntmps56
  go_wp2_with (at_range; refine wpList_range_own _ rfl _ 104 rfl 3 56 (int_keyed Tryz.underlying3) Tryz.underlying104 rawElem m0 n D rfl hownD ?_; intro w0 hrg0 hg0 hs0)
  go_frame
  simp only [World.size_alloc] at hrg0 ⊢
  generalize hhs : w.heap.size = hs at *
  have HI0 : Hid (w0.ranges Tryz.prog 3 rawElem m0 (hs + 1) n D (has D) (Maps.size D) ∧ CollR (leftL K) (has D) [] ∧ w0.ownsRow hs 56 8 (.slice none 0 0) 0 ((outP K []).flatMap repCells) ∧ KN w0 m0 m1 m2 m3 n (repF (leftL K)) (wdMV K) (coMV K) (wkA K) ∧ Blk w0 hs #[.map (some m0), .map (some m1), .map (some m2), .map (some m3)] 109 ∧ Below hs w w0) := Lib.hid ⟨hrg0, CollR.start HK.out.left.nodup HatD.out, World.ownsRow_nil _ _ _ _, HKN.out.more hg0, Hkb.out.grown hg0 (by simp), Hb1.out.trans ⟨hg0.os, hg0.tape, hg0.output, hg0.size, fun k hk => hg0.block k (by have := Hb1.out.size; omega) (by simp)⟩⟩
  clear hrg0 hg0 hownD kc hs0
  go_loopw [3] (fun vv wi => ∃ left cnt ps A2 c2, vv = .slice A2 (outP K ps).length c2 ∧ Hid (wi.ranges Tryz.prog 3 rawElem m0 (hs + 1) n D left cnt ∧ CollR (leftL K) left ps ∧ wi.ownsRow hs 56 8 (.slice A2 (outP K ps).length c2) (outP K ps).length ((outP K ps).flatMap repCells) ∧ KN wi m0 m1 m2 m3 n (repF (leftL K)) (wdMV K) (coMV K) (wkA K) ∧ Blk wi hs #[.map (some m0), .map (some m1), .map (some m2), .map (some m3)] 109 ∧ Below hs w wi)) (fun _ wi => wi.rangeLeft m0 (hs + 1))
  case atStart => exact ⟨_, _, [], none, 0, rfl, HI0⟩
  case round =>
    obtain ⟨left, cnt, ps, A2, c2, rfl, hR⟩ := hrel
    clear HI0
    obtain ⟨hrg, hC, hown, hKi, hki, hbi⟩ := hR.out
    clear hR
    have Hrg := Lib.hid hrg
    have hpl : (outP K ps).length ≤ 1000 := Nat.le_trans (outP_le K ps) (Nat.le_trans hC.len HK.out.left.len)
    go_wp2_with (at_next; go_loud (refine wpList_next_ranges _ rfl _ rfl 3 (int_keyed Tryz.underlying3) rawElem (Value.int .i64) (fun u : Value => u) intKeyShape rawShape m0 (hs + 1) n D left cnt rfl Hrg.out ?_ ?_))
    · intro _ hl0
      have hperm := outP_end (hC.perm HK.out.left.nodup hl0)
      have HPm := Lib.hid hperm
      have HOw := Lib.hid hown
      have Hbi := Lib.hid hbi
      have Hk := Lib.hid hki
      have hls := hbi.size
      have hRz := reps_own hown
      have HV := Lib.hid (fun a len cap W => callsIn_wide.1 (valuesR_in Fence.wide 1 trivial rfl a len cap W))
      have HB := Lib.hid (fun Bs fb W hBs hc hS hfb hf0 hf1 => byA_any Bs A2 c2 (outP K ps) hpl fb W hBs hc hS hfb hf0 hf1)
      have HRz := Lib.hid hRz
      clear hl0 hrg hKi hki hbi hperm hown hC hRz Hrg
      generalize outP K ps = zs at *
      have x1 := (Below.refl wr.heap.size wr).alloc (Nat.le_refl _) (.cells #[.slice A2 zs.length c2] 27)
      have x2 := x1.alloc x1.size (.cells #[.func (.func 83) #[] #[], .func (.func 84) #[] #[]] 48)
      have y1 := (Blk.new wr #[.slice A2 zs.length c2] 27).alloc (.cells #[.func (.func 83) #[] #[], .func (.func 84) #[] #[]] 48)
      have y2 := Blk.new (wr.alloc (.cells #[.slice A2 zs.length c2] 27)) #[.func (.func 83) #[] #[], .func (.func 84) #[] #[]] 48
      simp only [World.size_alloc] at y2
      have HB2 := Lib.hid (HB.out wr.heap.size (wr.heap.size + 1) _ y1.lt (y1.cell 0) (HRz.out.later x2) y2.lt (y2.cell 0) (y2.cell 1))
      have Hx2 := Lib.hid x2
      clear x1 x2 y1 y2 HB HRz
      go_wp2_with (first
        | (go_at_call 81; (with_reducible refine (HV.out _ _ _ _).mono ?_); rintro e w3 ⟨rfl, rfl⟩)
        | (go_at_call 82; (with_reducible refine (HB2.out).mono ?_); rintro e w4 ⟨A', c', l', rfl, hp, hs', hown, h4⟩; have hbb := (Hbi.out.trans (Hx2.out.mono (by omega))).trans (h4.mono (by have := Hx2.out.size; omega)); have Hown := Lib.hid hown; have Hl := Lib.hid (standL_of HK.out.nodup hp HPm.out hs'); clear hown hp hs'))
      go_ret
      have hfb := hbb.alloc (by have := hbb.size; omega) (.cells #[.slice A' l'.length c'] 27)
      exact ⟨w4.heap.size, A', c', rfl, ⟨by simp, by rw [← Hl.out]; exact (Blk.new w4 #[.slice A' l'.length c'] 27).cell 0, by rw [← Hl.out]; exact (reps_own Hown.out).later ((Below.refl _ _).alloc (Nat.le_refl _) _), by rw [hhs]; exact hfb⟩⟩
    · intro k1 v kl ya yb w1 cnt1 hkey hlk hv hat1 hrg1 hlt2 hg1 hs1 hen
      obtain ⟨p, ep, rfl, hwp⟩ := Maps.keyOf_int_inv Tryz.underlying3 hkey
      injection ep with _ ep
      subst ep
      have hv' := Option.some.inj hv
      injection hv' with hv1 hv2
      subst hv1
      clear hv hv2
      obtain ⟨r, hrL, rfl, rfl⟩ := repG_mem (got_some HatD.out hat1)
      have hrK := (List.mem_filter.1 hrL).1
      have hrw : wdV K r.id < 0 := by simpa using (List.mem_filter.1 hrL).2
      obtain ⟨ob, hob, hoc, how⟩ := ranges_it hrg
      have hK1 := (hKi.turn hg1 (fun es c e => how es c (Option.some.inj (hob.symm.trans e)))).alloc (.cells #[.int .i64 r.id, .int .i64 r.src, .int .i64 r.acc, .int .i64 r.made, .int .i64 r.about, .int .u8 r.kind, .int .i64 r.cents, .int .i64 r.of_] 56)
      have st1 := Step.turn (B := hs) hg1 hob hoc (by omega)
      have hk1 := (hki.step st1).alloc (.cells #[.int .i64 r.id, .int .i64 r.src, .int .i64 r.acc, .int .i64 r.made, .int .i64 r.about, .int .u8 r.kind, .int .i64 r.cents, .int .i64 r.of_] 56)
      have hsz1 : hs ≤ w1.heap.size := by have := hbi.size; have := st1.size; omega
      have hB1 := (hbi.trans st1.below).alloc (by omega) (.cells #[.int .i64 r.id, .int .i64 r.src, .int .i64 r.acc, .int .i64 r.made, .int .i64 r.about, .int .u8 r.kind, .int .i64 r.cents, .int .i64 r.of_] 56)
      have hown1 := (hown.kept hg1 (by
        rcases hown.2 with ⟨h0, _⟩ | ⟨g, cap, cur, h0, _, hbg, _⟩
        · rw [h0]; left; rfl
        · right; rw [h0]; intro e'; have : g = hs + 1 := by simpa [Value.ownBlock] using e'
          subst this; rw [hob] at hbg; cases hbg; cases hoc)).alloc (.cells #[.int .i64 r.id, .int .i64 r.src, .int .i64 r.acc, .int .i64 r.made, .int .i64 r.about, .int .u8 r.kind, .int .i64 r.cents, .int .i64 r.of_] 56)
      have HrowLt : Hid (∀ q, (Value.slice A2 (outP K ps).length c2).ownBlock = some q → q < w1.heap.size) := Lib.hid (fun q hq => by have := (hown.lt q hq).2; omega)
      have hkb5 : hs < w1.heap.size := by have := hki.lt; omega
      have hrg2 := hrg1.alloc (.cells #[.int .i64 r.id, .int .i64 r.src, .int .i64 r.acc, .int .i64 r.made, .int .i64 r.about, .int .u8 r.kind, .int .i64 r.cents, .int .i64 r.of_] 56)
      have hC2 := hC.step hrL hlk HK.out.left.nodup
      have k5 := Blk.new w1 #[.int .i64 r.id, .int .i64 r.src, .int .i64 r.acc, .int .i64 r.made, .int .i64 r.about, .int .u8 r.kind, .int .i64 r.cents, .int .i64 r.of_] 56
      have HF := Lib.hid (isFact_any r (w1.alloc (.cells #[.int .i64 r.id, .int .i64 r.src, .int .i64 r.acc, .int .i64 r.made, .int .i64 r.about, .int .u8 r.kind, .int .i64 r.cents, .int .i64 r.of_] 56)))
      have hwf := HWF.out.id r hrK
      have HrK := Lib.hid hrK
      have hkl := hk1.lt
      have k5c := k5.cell
      have Hlt2 := Lib.hid hlt2
      clear hrg1 hg1 hob hoc hKi hki hbi hat1 hlk hrg hs1 hlt2 how hrL hown hC st1
      by_cases h7 : r.kind ≤ 7
      · have e7 : decide (r.kind ≤ 7) = true := decide_eq_true h7
        have HO7 := Lib.hid (outP_fact (K := K) (ps := ps) h7)
        have hfb : factB K r = true := by unfold factB; simp [h7, hrw]
        have hck : corK K r.id = corV K r.id := by unfold corK; rw [atR_mem HK.out.nodup hrK]; dsimp only; rw [if_pos hfb]
        have Hpre := Lib.hid (And.intro hrg2 (And.intro hC2 (And.intro hown1 (And.intro hK1 (And.intro hk1 (And.intro hB1 k5))))))
        clear hrg2 hC2 hown1 hK1 hk1 hB1 k5 h7 hfb hrw hrK
        go_upto_region 6 with (go_at_call 80; (with_reducible refine (HF.out).mono ?_); rintro e w2 ⟨rfl, h2⟩)
        obtain ⟨hrg2, hC2, hown1, hK1, hk1, hB1, k5⟩ := Hpre.out
        have hg2 := grown_of_below h2
        have hrg3 := hrg2.kept hg2 (by simp) (by simp)
        have hown3 := own_below hown1 h2
        have hK3 := hK1.later h2
        have hk3 := hk1.below h2 hkl
        have hB3 := hB1.trans (h2.mono (by simp; omega))
        have k53 := k5.below h2 k5.lt
        have h5lt := k53.lt
        have hkl3 := hk3.lt
        have kc3 := hk3.cell
        have k5c3 := k53.cell
        generalize hb5 : w1.heap.size = b5 at *
        clear hrg2 hown1 hK1 hk1 hB1 k5 h2 hg2 Hpre HF k5c hkl
        generalize w2 = U at *
        have HC2 := Lib.hid hC2
        have HK3 := Lib.hid hK3
        have Hrg3 := Lib.hid hrg3
        have Hown3 := Lib.hid hown3
        have Hk3 := Lib.hid hk3
        have HB3 := Lib.hid hB3
        have Hk53 := Lib.hid k53
        have look := (hK3.r2).lookOk (int_keyed Tryz.underlying3) Tryz.underlying104 (repZero U) (keyOf_int_mk Tryz.underlying3 hwf)
        rw [intG_at, show coMV K r.id = (corV K r.id).map fun c => .agg #[.int .i64 c.id, .int .i64 c.src, .int .i64 c.acc, .int .i64 c.made, .int .i64 c.about, .int .u8 c.kind, .int .i64 c.cents, .int .i64 c.of_] by unfold coMV; rw [hck]] at look
        clear hC2 hK3 hrg3 hown3 hk3 hB3 k53 hck
        cases hcv : corV K r.id with
        | none =>
          rw [hcv] at look
          simp only [Option.map_none, Option.getD_none, Option.isSome_none] at look
          have hso : standOf K r = r := by unfold standOf; rw [hcv]
          rw [hso] at HO7
          clear hcv hso
          go_upto_region 9 with fail
          have HOw := Lib.hid (Hown3.out.alloc (.cells #[.int .i64 0, .int .i64 0, .int .i64 0, .int .i64 0, .int .i64 0, .int .u8 0, .int .i64 0, .int .i64 0] 56))
          have HBV := Lib.hid (HB3.out.alloc (by have := HB3.out.size; omega) (.cells #[.int .i64 0, .int .i64 0, .int .i64 0, .int .i64 0, .int .i64 0, .int .u8 0, .int .i64 0, .int .i64 0] 56))
          have HKV := Lib.hid (HK3.out.alloc (.cells #[.int .i64 0, .int .i64 0, .int .i64 0, .int .i64 0, .int .i64 0, .int .u8 0, .int .i64 0, .int .i64 0] 56))
          have HrV := Lib.hid (Hrg3.out.alloc (.cells #[.int .i64 0, .int .i64 0, .int .i64 0, .int .i64 0, .int .i64 0, .int .u8 0, .int .i64 0, .int .i64 0] 56))
          have HkV := Lib.hid (Hk3.out.alloc (.cells #[.int .i64 0, .int .i64 0, .int .i64 0, .int .i64 0, .int .i64 0, .int .u8 0, .int .i64 0, .int .i64 0] 56))
          have k5V := (Hk53.out.alloc (.cells #[.int .i64 0, .int .i64 0, .int .i64 0, .int .i64 0, .int .i64 0, .int .u8 0, .int .i64 0, .int .i64 0] 56)).cell
          clear Hown3 HB3 HK3 Hrg3 Hk3 Hk53 look kc3 k5c3
          generalize U.alloc (.cells #[.int .i64 0, .int .i64 0, .int .i64 0, .int .i64 0, .int .i64 0, .int .u8 0, .int .i64 0, .int .i64 0] 56) = V at *
          go_wp2_with (at_builtin; refine wpList_append_own_at _ rfl _ _ 27 rfl hs 56 i0 _ 8 64 Tryz.underlying27 hi0 hz0 hz1 hz2 rfl (by decide) _ _ _ rfl (HOw.out.alloc _) ⟨V.heap.size, 0, none⟩ 1 1 (repCells r) rfl rfl (cells_new8 _ _) (repCells_one _) (by unfold maxLen; omega) (by omega) (by have := HBV.out.size; simp; omega) ?_; intro v' w7 hown7 hg7 _ hat7)
          obtain ⟨A7, c7, rfl⟩ := own_slice hown7
          have hB7 := (HBV.out.alloc (by have := HBV.out.size; omega) (.cells #[.int .i64 r.id, .int .i64 r.src, .int .i64 r.acc, .int .i64 r.made, .int .i64 r.about, .int .u8 r.kind, .int .i64 r.cents, .int .i64 r.of_] 56)).grown hg7 (by have := HBV.out.size; simp; omega) (fun k e => (HOw.out.lt k e).1)
          have HFin := Lib.hid (And.intro (ranges_row (HrV.out.alloc (.cells #[.int .i64 r.id, .int .i64 r.src, .int .i64 r.acc, .int .i64 r.made, .int .i64 r.about, .int .u8 r.kind, .int .i64 r.cents, .int .i64 r.of_] 56)) (HOw.out.alloc _) hg7) (And.intro HC2.out (And.intro hown7 (And.intro ((HKV.out.alloc (.cells #[.int .i64 r.id, .int .i64 r.src, .int .i64 r.acc, .int .i64 r.made, .int .i64 r.about, .int .u8 r.kind, .int .i64 r.cents, .int .i64 r.of_] 56)).row (HOw.out.alloc _) hg7) (And.intro (Step.row (HOw.out.alloc _) hg7 (HkV.out.alloc (.cells #[.int .i64 r.id, .int .i64 r.src, .int .i64 r.acc, .int .i64 r.made, .int .i64 r.about, .int .u8 r.kind, .int .i64 r.cents, .int .i64 r.of_] 56)) (by decide)) hB7)))))
          clear hown7 hg7 hat7 hB7
          go_roundw
          case rel => exact ⟨_, cnt1, ps ++ [r], A7, c7, by rw [HO7.out, List.length_append]; rfl, by rw [HO7.out, List.length_append, repCells_snoc]; exact HFin⟩
          case measure => rw [HFin.out.1.left_eq, Hrg.out.left_eq]; exact Hlt2.out
        | some c =>
          rw [hcv] at look
          simp only [Option.map_some, Option.getD_some, Option.isSome_some] at look
          obtain ⟨s, hso⟩ : ∃ s, standOf K r = s := ⟨_, rfl⟩
          rw [hso] at HO7
          have hse : s = { r with about := c.about, cents := c.cents } := by rw [← hso]; unfold standOf; rw [hcv]
          clear hcv hso
          go_upto_region 8 with fail
          have bU : hs ≤ b5 := hsz1
          have kV5 := Hk53.out.alloc (.cells #[.int .i64 c.id, .int .i64 c.src, .int .i64 c.acc, .int .i64 c.made, .int .i64 c.about, .int .u8 c.kind, .int .i64 c.cents, .int .i64 c.of_] 56)
          have kV6 := Blk.new U #[.int .i64 c.id, .int .i64 c.src, .int .i64 c.acc, .int .i64 c.made, .int .i64 c.about, .int .u8 c.kind, .int .i64 c.cents, .int .i64 c.of_] 56
          have o0 := Hown3.out.alloc (.cells #[.int .i64 c.id, .int .i64 c.src, .int .i64 c.acc, .int .i64 c.made, .int .i64 c.about, .int .u8 c.kind, .int .i64 c.cents, .int .i64 c.of_] 56)
          have n0 := HK3.out.alloc (.cells #[.int .i64 c.id, .int .i64 c.src, .int .i64 c.acc, .int .i64 c.made, .int .i64 c.about, .int .u8 c.kind, .int .i64 c.cents, .int .i64 c.of_] 56)
          have r0 := Hrg3.out.alloc (.cells #[.int .i64 c.id, .int .i64 c.src, .int .i64 c.acc, .int .i64 c.made, .int .i64 c.about, .int .u8 c.kind, .int .i64 c.cents, .int .i64 c.of_] 56)
          have q0 := Hk3.out.alloc (.cells #[.int .i64 c.id, .int .i64 c.src, .int .i64 c.acc, .int .i64 c.made, .int .i64 c.about, .int .u8 c.kind, .int .i64 c.cents, .int .i64 c.of_] 56)
          have w0b := HB3.out.alloc (by have := HB3.out.size; omega) (.cells #[.int .i64 c.id, .int .i64 c.src, .int .i64 c.acc, .int .i64 c.made, .int .i64 c.about, .int .u8 c.kind, .int .i64 c.cents, .int .i64 c.of_] 56)
          clear Hown3 HB3 HK3 Hrg3 Hk3 Hk53 look kc3 k5c3
          have hlt6 : b5 < U.heap.size := h5lt
          generalize U.alloc (.cells #[.int .i64 c.id, .int .i64 c.src, .int .i64 c.acc, .int .i64 c.made, .int .i64 c.about, .int .u8 c.kind, .int .i64 c.cents, .int .i64 c.of_] 56) = X0 at *
          generalize U.heap.size = b6 at *
          have v5 := kV5.cell
          have v5f := kV5.free
          have v6 := kV6.cell
          have kV54 := kV5.set 4 (.int .i64 c.about)
          have kV64 := kV6.far (p := ⟨b5, 4, none⟩) (by show b6 ≠ b5; omega) (.int .i64 c.about)
          have v54 := kV54.cell
          have v54f := kV54.free
          have v64 := kV64.cell
          have S1 := stand_set (o := 4) kV5 HrowLt.out hkb5 o0 n0 r0 q0 (.int .i64 c.about)
          have S2 := stand_set (o := 6) kV54 HrowLt.out hkb5 S1.1 S1.2.1 S1.2.2.1 S1.2.2.2 (.int .i64 c.cents)
          have HS2 := Lib.hid S2
          have HkW := Lib.hid ((kV54.set 6 (.int .i64 c.cents)).drew)
          have HB0 := Lib.hid (((w0b.setCell (p := ⟨b5, 4, none⟩) bU (.int .i64 c.about)).setCell (p := ⟨b5, 6, none⟩) bU (.int .i64 c.cents)).drew)
          clear kV5 kV6 kV54 kV64 S1 S2 o0 n0 r0 q0 w0b
          go_region
          go_upto_region 9 with fail
          have hdw : ∀ X : World, Below X.heap.size X X.drew := fun X => (Below.refl _ X).drew
          have HOw := Lib.hid (own_below HS2.out.1 (hdw _))
          have HBV := Lib.hid HB0.out
          have HKV := Lib.hid (HS2.out.2.1.later (hdw _))
          have HrV := Lib.hid (HS2.out.2.2.1.kept (grown_of_below (hdw _)) (by simp) (by simp))
          have HkV := Lib.hid (HS2.out.2.2.2.drew)
          have k5V := HkW.out.cell
          clear v5 v5f v6 v54 v54f v64 HS2 HB0 HkW hdw
          generalize ((X0.setCell ⟨b5, 4, none⟩ (.int .i64 c.about)).setCell ⟨b5, 6, none⟩ (.int .i64 c.cents)).drew = V at *
          have k5s : ∀ q, V.cell? ⟨b5, q, none⟩ = (#[.int .i64 s.id, .int .i64 s.src, .int .i64 s.acc, .int .i64 s.made, .int .i64 s.about, .int .u8 s.kind, .int .i64 s.cents, .int .i64 s.of_] : Array Value)[q]? := by rw [hse]; exact k5V
          clear k5V hse
          go_wp2_with (at_builtin; refine wpList_append_own_at _ rfl _ _ 27 rfl hs 56 i0 _ 8 64 Tryz.underlying27 hi0 hz0 hz1 hz2 rfl (by decide) _ _ _ rfl (HOw.out.alloc _) ⟨V.heap.size, 0, none⟩ 1 1 (repCells s) rfl rfl (cells_new8 _ _) (repCells_one _) (by unfold maxLen; omega) (by omega) (by have := HBV.out.size; simp; omega) ?_; intro v' w7 hown7 hg7 _ hat7)
          obtain ⟨A7, c7, rfl⟩ := own_slice hown7
          have hB7 := (HBV.out.alloc (by have := HBV.out.size; omega) (.cells #[.int .i64 s.id, .int .i64 s.src, .int .i64 s.acc, .int .i64 s.made, .int .i64 s.about, .int .u8 s.kind, .int .i64 s.cents, .int .i64 s.of_] 56)).grown hg7 (by have := HBV.out.size; simp; omega) (fun k e => (HOw.out.lt k e).1)
          have HFin := Lib.hid (And.intro (ranges_row (HrV.out.alloc (.cells #[.int .i64 s.id, .int .i64 s.src, .int .i64 s.acc, .int .i64 s.made, .int .i64 s.about, .int .u8 s.kind, .int .i64 s.cents, .int .i64 s.of_] 56)) (HOw.out.alloc _) hg7) (And.intro HC2.out (And.intro hown7 (And.intro ((HKV.out.alloc (.cells #[.int .i64 s.id, .int .i64 s.src, .int .i64 s.acc, .int .i64 s.made, .int .i64 s.about, .int .u8 s.kind, .int .i64 s.cents, .int .i64 s.of_] 56)).row (HOw.out.alloc _) hg7) (And.intro (Step.row (HOw.out.alloc _) hg7 (HkV.out.alloc (.cells #[.int .i64 s.id, .int .i64 s.src, .int .i64 s.acc, .int .i64 s.made, .int .i64 s.about, .int .u8 s.kind, .int .i64 s.cents, .int .i64 s.of_] 56)) (by decide)) hB7)))))
          clear hown7 hg7 hat7 hB7
          go_roundw
          case rel => exact ⟨_, cnt1, ps ++ [r], A7, c7, by rw [HO7.out, List.length_append]; rfl, by rw [HO7.out, List.length_append, repCells_snoc]; exact HFin⟩
          case measure => rw [HFin.out.1.left_eq, Hrg.out.left_eq]; exact Hlt2.out
      · have e7 : decide (r.kind ≤ 7) = false := decide_eq_false h7
        have HO7 := Lib.hid (outP_not (K := K) (ps := ps) h7)
        have Hpre := Lib.hid (And.intro hrg2 (And.intro hC2 (And.intro hown1 (And.intro hK1 (And.intro hk1 hB1)))))
        clear hrg2 hC2 hown1 hK1 hk1 hB1 k5 h7 hrw hrK
        go_wp2_with (go_at_call 80; (with_reducible refine (HF.out).mono ?_); rintro e w2 ⟨rfl, h2⟩)
        obtain ⟨hrg2, hC2, hown1, hK1, hk1, hB1⟩ := Hpre.out
        have hrg3 := hrg2.kept (grown_of_below h2) (by simp) (by simp)
        have HFin := Lib.hid (And.intro hrg3 (And.intro hC2 (And.intro (own_below hown1 h2) (And.intro (hK1.later h2) (And.intro (hk1.below h2 hkl) (hB1.trans (h2.mono (by simp; omega))))))))
        clear hrg2 hC2 hown1 hK1 hk1 hB1 hrg3 Hpre
        go_roundw
        case rel => exact ⟨_, cnt1, ps ++ [r], A2, c2, by rw [HO7.out], by rw [HO7.out]; exact HFin⟩
        case measure => rw [HFin.out.1.left_eq, Hrg.out.left_eq]; exact Hlt2.out

end Go.Proofs.YtkpaikampmeooaaGreatDoor

namespace Go.Proofs.YtkpaikampmeooaaGreatDoor
open Go.RowKit Go.Maps

set_option maxRecDepth 100000 in
set_option maxHeartbeats 4000000 in
theorem standingTop_any (l : List Rep) (A : Option Addr) (c : Nat) (d : Int) (w : World) (h : Reps w w.heap.size A l) (hN : NeedsAt w) (hl : l.length ≤ 1000) (hwf : ∀ r ∈ l, RepWf r) :
    Calls Tryz.prog 33 #[.slice A l.length c, .int .i64 d] w fun e w' => ∃ v, e = .returned (.tuple #[v, .int .i64 (standE l d)]) ∧ w'.ownsRow w.heap.size 56 8 v (standR l d).length ((standR l d).flatMap repCells) ∧ Below w.heap.size w w' := by
  by_cases hc : checkV l = 0
  · cases hd : inN d 0 100000 with
    | false =>
      have HH := Lib.hid (hear_arg l A c d w h hN hl hwf hc hd)
      have He : Hid (standE l d = 2) := Lib.hid (by unfold standE; rw [if_pos hc, hd]; rfl)
      have HR : Hid (standR l d = []) := Lib.hid (by unfold standR; rw [He.out]; rfl)
      clear hc hd h hN hwf
      go_enter Tryz.func33, Tryz.ntmps33
      go_wp2_with (go_at_call 54; (with_reducible refine (HH.out).mono ?_); rintro e w1 ⟨rfl, h1⟩)
      go_ret2
      exact ⟨_, by rw [He.out]; rfl, by rw [HR.out]; exact World.ownsRow_nil _ _ _ _, h1.alloc h1.size _⟩
    | true =>
      have HH := Lib.hid (hear_ok l A c d w h hN hl hwf hc hd)
      have He : Hid (standE l d = 0) := Lib.hid (by unfold standE; rw [if_pos hc, hd]; rfl)
      have HR : Hid (standR l d = standL (knownL l d)) := Lib.hid (by unfold standR; rw [He.out]; rfl)
      have HK := Lib.hid (knOk_of hc d)
      have HKW := Lib.hid (knWf_of hc d)
      clear hc hd h hN hwf
      go_enter Tryz.func33, Tryz.ntmps33
      go_upto_region 4 with (go_at_call 54; (with_reducible refine (HH.out).mono ?_); rintro e w1 ⟨m0, m1, m2, m3, rfl, hHe⟩)
      have b2 := hHe.below.alloc hHe.below.size (.cells #[.map (some m0), .map (some m1), .map (some m2), .map (some m3)] 109)
      have k2 := (Blk.new w1 #[.map (some m0), .map (some m1), .map (some m2), .map (some m3)] 109).cell
      have hKN := hHe.kn.alloc (.cells #[.map (some m0), .map (some m1), .map (some m2), .map (some m3)] 109)
      have HS := Lib.hid (standingP_any m0 m1 m2 m3 8000 (knownL l d) _ hKN HK.out HKW.out)
      have HC := Lib.hid (fun Bs A cap zs hz W n0 h1 h2 h3 h4 => collectR_any Bs n0 A cap zs hz W h1 h2 h3 h4)
      have Hb2 := Lib.hid b2
      have hkl : (knownL l d).length ≤ 1000 := HK.out.len
      have hsl : (standL (knownL l d)).length ≤ 1000 := by
        rw [(standL_perm _).length_eq]
        unfold standS
        rw [List.length_map]
        exact Nat.le_trans (List.length_filter_le _ _) hkl
      clear b2 hKN hHe HH
      go_wp2_with (first
        | (go_at_call 56; (with_reducible refine (HS.out).mono ?_); rintro e w3 ⟨Bs, A3, c3, rfl, hSt⟩; have HC2 := Lib.hid (HC.out Bs A3 c3 _ hsl w3 w3.heap.size hSt.lt (Nat.le_refl _) hSt.cell hSt.reps); have h3 := Lib.hid hSt.below; clear hSt)
        | (go_at_call 55; (with_reducible refine (HC2.out).mono ?_); rintro e w4 ⟨v, rfl, hown, h4⟩))
      go_ret2
      have hb3 := Hb2.out.trans (h3.out.mono Hb2.out.size)
      exact ⟨_, by rw [He.out]; rfl, by rw [HR.out]; exact own_base hown hb3.size, hb3.trans (h4.mono hb3.size)⟩
  · have HH := Lib.hid (hear_bad l A c d w h hN hl hwf hc)
    have hc0 : (checkV l != 0) = true := by simpa using hc
    have He : Hid (standE l d = checkV l) := Lib.hid (by unfold standE; rw [if_neg hc])
    have HR : Hid (standR l d = []) := Lib.hid (by unfold standR; rw [He.out, if_neg hc])
    clear hc h hN hwf
    generalize checkV l = z at *
    go_enter Tryz.func33, Tryz.ntmps33
    go_wp2_with (go_at_call 54; (with_reducible refine (HH.out).mono ?_); rintro e w1 ⟨rfl, h1⟩)
    go_ret2
    exact ⟨_, by rw [He.out]; rfl, by rw [HR.out]; exact World.ownsRow_nil _ _ _ _, h1.alloc h1.size _⟩

end Go.Proofs.YtkpaikampmeooaaGreatDoor

namespace Go.Proofs.YtkpaikampmeooaaGreatDoor
open Go.RowKit Go.Maps

abbrev zeroBur : Value := .agg #[.slice none 0 0, .slice none 0 0, .int .i64 0, .slice none 0 0, .map none, .nilFunc, .nilFunc, .nilFunc, .nilFunc, .nilFunc]
theorem zeroBurIs (w : World) : (zeroValue 51).run Tryz.prog w = .ok zeroBur w := by kernel_rfl

set_option maxRecDepth 100000 in
set_option maxHeartbeats 4000000 in
theorem open_bad {l : List LawT} {s : List StillT} {homes : List HomeT} {rl : List Rep} (hw : BurWf l s homes rl) (A S H R : Option Addr) (c cs ch cr : Nat) (day : Int) (w : World) (h : BurAt w w.heap.size A S H R l s homes rl) (hN : NeedsAt w) (he : ¬ err4 l s homes rl day = 0) :
    Calls Tryz.prog 15 #[.agg #[.slice A l.length c, .slice S s.length cs], .slice H homes.length ch, .slice R rl.length cr, .int .i64 day] w fun e w' => e = .returned (.tuple #[zeroBur, .int .i64 (err4 l s homes rl day)]) ∧ Below w.heap.size w w' := by
  have b1 := ((Below.refl w.heap.size w).alloc (Nat.le_refl _) (.cells #[.slice A l.length c, .slice S s.length cs] 25)).alloc (by simp) (.cells #[.slice none 0 0, .slice none 0 0, .int .i64 0, .slice none 0 0, .map none, .nilFunc, .nilFunc, .nilFunc, .nilFunc, .nilFunc] 51)
  have k1 := (Blk.new w #[.slice A l.length c, .slice S s.length cs] 25).alloc (.cells #[.slice none 0 0, .slice none 0 0, .int .i64 0, .slice none 0 0, .map none, .nilFunc, .nilFunc, .nilFunc, .nilFunc, .nilFunc] 51)
  have k2 := Blk.new (w.alloc (.cells #[.slice A l.length c, .slice S s.length cs] 25)) #[.slice none 0 0, .slice none 0 0, .int .i64 0, .slice none 0 0, .map none, .nilFunc, .nilFunc, .nilFunc, .nilFunc, .nilFunc] 51
  simp only [World.size_alloc] at k2
  have HC := Lib.hid (checkT_any hw A S H R c cs ch _ (h.later b1))
  have HS := Lib.hid (fun W hb => standingTop_any rl R cr day W (h.later hb).reps (hN.later hb) hw.nReps hw.repWf)
  have hn0 : Hid (w.heap.size ≤ w.heap.size + 1) := Lib.hid (by omega)
  have g1 := k1.lt
  have g2 := k2.lt
  by_cases hz : check4V l s homes = 0
  · have hst : ¬ standE rl day = 0 := fun e => he (by
      have e2 := e
      unfold standE at e2
      by_cases h1 : checkV rl = 0
      · rw [if_pos h1] at e2
        by_cases h2 : inN day 0 100000 = true
        · unfold err4 asked4; rw [if_pos hz, if_pos h1, if_pos h2]
        · rw [if_neg h2] at e2; omega
      · rw [if_neg h1] at e2; exact absurd e2 h1)
    have HE : Hid (err4 l s homes rl day = standE rl day) := Lib.hid (by
      unfold err4 asked4 standE
      rw [if_pos hz])
    have hc0 : (standE rl day != 0) = true := by simpa using hst
    rw [hz] at HC
    clear h hN he hz hst hw
    generalize standR rl day = facts at *
    generalize standE rl day = z at *
    generalize err4 l s homes rl day = er at *
    go_enter Tryz.func15, Tryz.ntmps15
    go_upto_region 1 with fail
    generalize hW1 : (w.alloc (.cells #[.slice A l.length c, .slice S s.length cs] 25)).alloc (.cells #[.slice none 0 0, .slice none 0 0, .int .i64 0, .slice none 0 0, .map none, .nilFunc, .nilFunc, .nilFunc, .nilFunc, .nilFunc] 51) = W1 at *
    clear hW1
    have k1c := k1.cell
    go_upto_region 6 with (first
      | (go_at_call 10; (with_reducible refine (HC.out).mono ?_); rintro e w2 ⟨rfl, h2⟩; have b2 := b1.trans (h2.mono b1.size); have k2b := k2.below h2 g2)
      | (go_at_call 33; (with_reducible refine (HS.out _ b2).mono ?_); rintro e w3 ⟨v3, rfl, o3, h3⟩; have b3 := b2.trans (h3.mono b2.size); have k2d := k2b.below h3 k2b.lt; obtain ⟨F, cf, rfl⟩ := own_slice o3))
    have k2c := k2d.cell
    have k2f := k2d.free
    have B7 := Lib.hid (((((((((((b3.setCell (p := ⟨w.heap.size + 1, 0, none⟩) hn0.out (.slice none 0 0)).setCell (p := ⟨w.heap.size + 1, 1, none⟩) hn0.out (.slice none 0 0)).setCell (p := ⟨w.heap.size + 1, 2, none⟩) hn0.out (.int .i64 0)).setCell (p := ⟨w.heap.size + 1, 3, none⟩) hn0.out (.slice none 0 0)).setCell (p := ⟨w.heap.size + 1, 4, none⟩) hn0.out (.map none)).setCell (p := ⟨w.heap.size + 1, 5, none⟩) hn0.out (.nilFunc)).setCell (p := ⟨w.heap.size + 1, 6, none⟩) hn0.out (.nilFunc)).setCell (p := ⟨w.heap.size + 1, 7, none⟩) hn0.out (.nilFunc)).setCell (p := ⟨w.heap.size + 1, 8, none⟩) hn0.out (.nilFunc)).setCell (p := ⟨w.heap.size + 1, 9, none⟩) hn0.out (.nilFunc)))
    clear k1c
    go_wp2_with fail
    have hrc := (((((((((((k2d.set 0 (.slice none 0 0)).set 1 (.slice none 0 0)).set 2 (.int .i64 0)).set 3 (.slice none 0 0)).set 4 (.map none)).set 5 (.nilFunc)).set 6 (.nilFunc)).set 7 (.nilFunc)).set 8 (.nilFunc)).set 9 (.nilFunc))).cell
    exact bodyPost_ret (v := .tuple #[zeroBur, .int .i64 z]) (by simp [results, Tryz.results15, go_sem, hrc]) rfl ⟨by rw [HE.out], B7.out⟩
  · have HE : Hid (err4 l s homes rl day = check4V l s homes) := Lib.hid (by unfold err4 asked4; rw [if_neg hz, if_neg hz])
    have hc0 : (check4V l s homes != 0) = true := by simpa using hz
    clear h hN he hz hw HS
    generalize check4V l s homes = z at *
    generalize err4 l s homes rl day = er at *
    go_enter Tryz.func15, Tryz.ntmps15
    go_upto_region 1 with fail
    generalize hW1 : (w.alloc (.cells #[.slice A l.length c, .slice S s.length cs] 25)).alloc (.cells #[.slice none 0 0, .slice none 0 0, .int .i64 0, .slice none 0 0, .map none, .nilFunc, .nilFunc, .nilFunc, .nilFunc, .nilFunc] 51) = W1 at *
    clear hW1
    have k1c := k1.cell
    go_upto_region 3 with (go_at_call 10; (with_reducible refine (HC.out).mono ?_); rintro e w2 ⟨rfl, h2⟩; have b2 := b1.trans (h2.mono b1.size); have k2b := k2.below h2 g2)
    have k2c := k2b.cell
    have k2f := k2b.free
    have B7 := Lib.hid (((((((((((b2.setCell (p := ⟨w.heap.size + 1, 0, none⟩) hn0.out (.slice none 0 0)).setCell (p := ⟨w.heap.size + 1, 1, none⟩) hn0.out (.slice none 0 0)).setCell (p := ⟨w.heap.size + 1, 2, none⟩) hn0.out (.int .i64 0)).setCell (p := ⟨w.heap.size + 1, 3, none⟩) hn0.out (.slice none 0 0)).setCell (p := ⟨w.heap.size + 1, 4, none⟩) hn0.out (.map none)).setCell (p := ⟨w.heap.size + 1, 5, none⟩) hn0.out (.nilFunc)).setCell (p := ⟨w.heap.size + 1, 6, none⟩) hn0.out (.nilFunc)).setCell (p := ⟨w.heap.size + 1, 7, none⟩) hn0.out (.nilFunc)).setCell (p := ⟨w.heap.size + 1, 8, none⟩) hn0.out (.nilFunc)).setCell (p := ⟨w.heap.size + 1, 9, none⟩) hn0.out (.nilFunc)))
    clear k1c
    go_wp2_with fail
    have hrc := (((((((((((k2b.set 0 (.slice none 0 0)).set 1 (.slice none 0 0)).set 2 (.int .i64 0)).set 3 (.slice none 0 0)).set 4 (.map none)).set 5 (.nilFunc)).set 6 (.nilFunc)).set 7 (.nilFunc)).set 8 (.nilFunc)).set 9 (.nilFunc))).cell
    exact bodyPost_ret (v := .tuple #[zeroBur, .int .i64 z]) (by simp [results, Tryz.results15, go_sem, hrc]) rfl ⟨by rw [HE.out], B7.out⟩
end Go.Proofs.YtkpaikampmeooaaGreatDoor

namespace Go.Proofs.YtkpaikampmeooaaGreatDoor
open Go.RowKit Go.Maps

set_option maxRecDepth 100000 in
set_option maxHeartbeats 2000000 in
theorem goneT_bad {l : List LawT} {s : List StillT} {homes : List HomeT} {rl : List Rep} (hw : BurWf l s homes rl) (A S H R : Option Addr) (c cs ch cr : Nat) (day : Int) (w : World) (h : BurAt w w.heap.size A S H R l s homes rl) (hN : NeedsAt w) (he : ¬ err4 l s homes rl day = 0) :
    Calls Tryz.prog 8 #[.agg #[.slice A l.length c, .slice S s.length cs], .slice H homes.length ch, .slice R rl.length cr, .int .i64 day] w fun e w' => ∃ A' c', e = .returned (.tuple #[.slice A' (goneR l s homes rl day).length c', .int .i64 (err4 l s homes rl day)]) ∧ Flat 1 intC w' w'.heap.size A' (goneR l s homes rl day) ∧ Below w.heap.size w w' := by
  have b1 := (Below.refl w.heap.size w).alloc (Nat.le_refl _) (.cells #[.slice A l.length c, .slice S s.length cs] 25)
  have HO := Lib.hid (open_bad hw A S H R c cs ch cr day _ (h.later b1) (hN.later b1) he)
  have hg : goneR l s homes rl day = [] := by unfold goneR; rw [if_neg he]
  have hc0 : (err4 l s homes rl day != 0) = true := by simpa using he
  rw [hg]
  clear h hN he hw hg
  generalize err4 l s homes rl day = z at *
  go_enter Tryz.func8, Tryz.ntmps8
  go_wp2_with (go_at_call 15; (with_reducible refine (HO.out).mono ?_); rintro e w2 ⟨rfl, h2⟩)
  have b2 := b1.trans (h2.mono b1.size)
  go_ret2
  exact ⟨none, 0, rfl, fun k hk => by simp at hk, b2.alloc b2.size _⟩
end Go.Proofs.YtkpaikampmeooaaGreatDoor
