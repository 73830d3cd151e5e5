/- For every rules, two records and numbers the law on rules that allow more returns true, and each argument reads afterwards as it read before. No condition. -/
import Derived.Test.YtofckokjeiaphaaGreatAlive
import Derived.Test.YtofckokjeiaphaaGreatMore
import Derived.Test.YtofckokjeiaphaaGreatAt
import Derived.StillTailTactics
import Derived.IntWalk
namespace Go.Proofs.YtofckokjeiaphaaGreat
open Go.RowKit

/-- The rules that allow more, by the numbers. -/
def widen (u : Rul) (by_ : List Int) : Rul := ⟨u.l + atL by_ 0 % (5 - u.l + 1), u.d + atL by_ 1 % (5 - u.d + 1), u.y + atL by_ 2 % (1000 - u.y + 1), u.t⟩

structure MoBounds (u : Rul) : Prop where
  l0 : 0 ≤ u.l
  l1 : u.l ≤ 5
  d0 : 0 ≤ u.d
  d1 : u.d ≤ 5
  y0 : 0 ≤ u.y
  y1 : u.y ≤ 1000
theorem moBounds {u : Rul} (hR : rulesB u.l u.d u.y u.t = true) : MoBounds u := by
  simp only [rulesB, inB, Bool.and_eq_true, decide_eq_true_eq] at hR
  exact ⟨by omega, by omega, by omega, by omega, by omega, by omega⟩
theorem recB_lohi {r : Rec} (h : recB r = true) : r.lo ≤ r.hi := by
  simp only [recB, Bool.and_eq_true] at h
  obtain ⟨⟨⟨_, h3⟩, _⟩, _⟩ := h
  simp only [daysB, inB, Bool.and_eq_true, decide_eq_true_eq] at h3
  omega
theorem addRem {x a m : Int} (hx : x ≤ m) : 0 ≤ a % (m - x + 1) ∧ x ≤ x + a % (m - x + 1) ∧ x + a % (m - x + 1) ≤ m := by
  have h1 := Int.emod_nonneg a (b := m - x + 1) (by omega)
  have h2 := Int.emod_lt_of_pos a (b := m - x + 1) (by omega)
  omega
theorem widen_ok {u : Rul} {l : List Int} (hR : rulesB u.l u.d u.y u.t = true) : rulesB (widen u l).l (widen u l).d (widen u l).y (widen u l).t = true ∧ Wider u (widen u l) := by
  simp only [rulesB, inB, Bool.and_eq_true, decide_eq_true_eq] at hR
  have h1 := addRem (x := u.l) (a := atL l 0) (m := 5) (by omega)
  have h2 := addRem (x := u.d) (a := atL l 1) (m := 5) (by omega)
  have h3 := addRem (x := u.y) (a := atL l 2) (m := 1000) (by omega)
  refine ⟨?_, ⟨h1.2.1, h2.2.1, h3.2.1, rfl⟩⟩
  show rulesB (u.l + atL l 0 % (5 - u.l + 1)) (u.d + atL l 1 % (5 - u.d + 1)) (u.y + atL l 2 % (1000 - u.y + 1)) u.t = true
  simp only [rulesB, inB, Bool.and_eq_true, decide_eq_true_eq]
  omega
/-- What the arithmetic of one line comes to. -/
structure LineOk (x a m : Int) : Prop where
  w1 : IntKind.i64.wrap (m - x) = m - x
  w2 : IntKind.i64.wrap (m - x + 1) = m - x + 1
  w3 : IntKind.i64.wrap a = a
  nz : (m - x + 1 == 0) = false
  nz' : ¬ m - x + 1 = 0
  pos : 0 < m - x + 1
  md : a.tmod (m - x + 1) = a % (m - x + 1)
  w4 : IntKind.i64.wrap (a % (m - x + 1)) = a % (m - x + 1)
  w5 : IntKind.i64.wrap (x + a % (m - x + 1)) = x + a % (m - x + 1)
theorem lineOk {x a m : Int} (h0 : 0 ≤ x) (h1 : x ≤ m) (hm : m ≤ 1000) (ha : 0 ≤ a ∧ a < 4294967296) : LineOk x a m := by
  have h := addRem (x := x) (a := a) (m := m) h1
  have e : IntKind.i64.wrap (a % (m - x + 1)) = a % (m - x + 1) := IntWalk.i64_in _ (by omega)
  exact ⟨IntWalk.i64_in _ (by omega), IntWalk.i64_in _ (by omega), IntWalk.i64_in _ (by omega), beq_eq_false_iff_ne.2 (by omega), by omega, by omega, Int.tmod_eq_emod_of_nonneg ha.1, e, IntWalk.i64_in _ (by omega)⟩

theorem at_still {l : List Int} {A : Option Addr} (c : Nat) {i : Int} {w : World} (h : U32s w w.heap.size A l) (hl : l.length ≤ maxLen) (h0 : 0 ≤ i) (h1 : i ≤ 1000000) :
    Calls Tryz.prog 26 #[.slice A l.length c, .int .i64 i] w fun e w' => e = .returned (.int .u32 (atL l i)) ∧ w' = w :=
  (at_any l A c i w h hl h0 h1).mono fun _ _ ⟨a, b⟩ => ⟨a, b.symm⟩

structure MoFacts (M M2 : Mat) : Prop where
  n : M.names ≤ M2.names
  k : M.num ≤ M2.num
  b : M.born ≤ M2.born
  p : (M2.place != M.place) = false
  o : M.one ≤ M2.one
  z : 0 ≤ M.one
theorem moFacts {u v : Rul} (h : Wider u v) (r s : Rec) : MoFacts (matF u r s) (matF v r s) := by
  obtain ⟨h1, h2, h3, h4, h5⟩ := matF_mono h r s
  exact ⟨h1, h2, h3, by simp [h4], h5, (one_range u r s).1⟩

set_option maxRecDepth 100000 in
set_option maxHeartbeats 4000000 in
theorem matchMore_any (u : Rul) (r s : Rec) (l : List Int) (A A' D D' L : Option Addr) (c c' d d' cl : Nat) (w : World) (hsr : 0 ≤ r.suf) (hss : 0 ≤ s.suf) (h : RecAt w w.heap.size A D r) (h' : RecAt w w.heap.size A' D' s) (hU : U32s w w.heap.size L l) (hl : l.length ≤ maxLen) (hc : r.names.length ≤ c) (hc' : s.names.length ≤ c') :
    Calls Tryz.prog 7 #[.agg #[.int .i64 u.l, .int .i64 u.d, .int .i64 u.y, .int .i64 u.t], .agg #[.int .i64 r.id, .slice A r.names.length c, .int .u8 r.suf, .int .i64 r.lo, .int .i64 r.hi, .string r.num, .bool r.twin, .slice D r.stays.length d], .agg #[.int .i64 s.id, .slice A' s.names.length c', .int .u8 s.suf, .int .i64 s.lo, .int .i64 s.hi, .string s.num, .bool s.twin, .slice D' s.stays.length d'], .slice L l.length cl] w fun e w' => e = .returned (.bool true) ∧ Below w.heap.size w w' := by
  have b0 : Below w.heap.size w (((w.alloc (.cells #[.int .i64 u.l, .int .i64 u.d, .int .i64 u.y, .int .i64 u.t] 23)).alloc (.cells #[.int .i64 r.id, .slice A r.names.length c, .int .u8 r.suf, .int .i64 r.lo, .int .i64 r.hi, .string r.num, .bool r.twin, .slice D r.stays.length d] 47)).alloc (.cells #[.int .i64 s.id, .slice A' s.names.length c', .int .u8 s.suf, .int .i64 s.lo, .int .i64 s.hi, .string s.num, .bool s.twin, .slice D' s.stays.length d'] 47)) := (((Below.refl _ _).alloc (Nat.le_refl _) _).alloc (by simp) _).alloc (by simp; omega) _
  have k0 := ((Blk.new w #[.int .i64 u.l, .int .i64 u.d, .int .i64 u.y, .int .i64 u.t] 23).alloc (.cells #[.int .i64 r.id, .slice A r.names.length c, .int .u8 r.suf, .int .i64 r.lo, .int .i64 r.hi, .string r.num, .bool r.twin, .slice D r.stays.length d] 47)).alloc (.cells #[.int .i64 s.id, .slice A' s.names.length c', .int .u8 s.suf, .int .i64 s.lo, .int .i64 s.hi, .string s.num, .bool s.twin, .slice D' s.stays.length d'] 47)
  have k1 := (Blk.new (w.alloc (.cells #[.int .i64 u.l, .int .i64 u.d, .int .i64 u.y, .int .i64 u.t] 23)) #[.int .i64 r.id, .slice A r.names.length c, .int .u8 r.suf, .int .i64 r.lo, .int .i64 r.hi, .string r.num, .bool r.twin, .slice D r.stays.length d] 47).alloc (.cells #[.int .i64 s.id, .slice A' s.names.length c', .int .u8 s.suf, .int .i64 s.lo, .int .i64 s.hi, .string s.num, .bool s.twin, .slice D' s.stays.length d'] 47)
  have k2 := Blk.new ((w.alloc (.cells #[.int .i64 u.l, .int .i64 u.d, .int .i64 u.y, .int .i64 u.t] 23)).alloc (.cells #[.int .i64 r.id, .slice A r.names.length c, .int .u8 r.suf, .int .i64 r.lo, .int .i64 r.hi, .string r.num, .bool r.twin, .slice D r.stays.length d] 47)) #[.int .i64 s.id, .slice A' s.names.length c', .int .u8 s.suf, .int .i64 s.lo, .int .i64 s.hi, .string s.num, .bool s.twin, .slice D' s.stays.length d'] 47
  simp only [World.size_alloc] at k1 k2
  have Hr := h.later b0
  have Hs := h'.later b0
  have Hu := hU.later b0
  have HQ := Lib.hid (fun W => alive_any W)
  have HG := Lib.hid (fun W => refRules_below u.l u.d u.y u.t W)
  have HA := Lib.hid (fun W hh => refRecord_any A D c d r W hh)
  have HB := Lib.hid (fun W hh => refRecord_any A' D' c' d' s W hh)
  clear h h' hU
  cases hR : rulesB u.l u.d u.y u.t with
  | false =>
    rw [hR] at HG
    go_enter Tryz.func7, Tryz.ntmps7
    go_upto_region 1 with fail
    generalize ((w.alloc (.cells #[.int .i64 u.l, .int .i64 u.d, .int .i64 u.y, .int .i64 u.t] 23)).alloc (.cells #[.int .i64 r.id, .slice A r.names.length c, .int .u8 r.suf, .int .i64 r.lo, .int .i64 r.hi, .string r.num, .bool r.twin, .slice D r.stays.length d] 47)).alloc (.cells #[.int .i64 s.id, .slice A' s.names.length c', .int .u8 s.suf, .int .i64 s.lo, .int .i64 s.hi, .string s.num, .bool s.twin, .slice D' s.stays.length d'] 47) = W0 at *
    go_wp2_with (first | (go_at_call 19; (with_reducible refine (HQ.out _).mono ?_); rintro e w1 ⟨rfl, h1⟩; have c0 := (k0.below h1 k0.lt).cell) | (go_at_call 20; (with_reducible refine (HG.out _).mono ?_); rintro e w2 ⟨rfl, h2⟩; have e2 := h1.trans (h2.mono h1.size); have c1 := (k1.below e2 k1.lt).cell))
    go_ret
    exact ⟨rfl, b0.trans (e2.mono b0.size)⟩
  | true =>
    rw [hR] at HG
    cases hrB : recB r with
    | false =>
      rw [hrB] at HA
      go_enter Tryz.func7, Tryz.ntmps7
      go_upto_region 1 with fail
      generalize ((w.alloc (.cells #[.int .i64 u.l, .int .i64 u.d, .int .i64 u.y, .int .i64 u.t] 23)).alloc (.cells #[.int .i64 r.id, .slice A r.names.length c, .int .u8 r.suf, .int .i64 r.lo, .int .i64 r.hi, .string r.num, .bool r.twin, .slice D r.stays.length d] 47)).alloc (.cells #[.int .i64 s.id, .slice A' s.names.length c', .int .u8 s.suf, .int .i64 s.lo, .int .i64 s.hi, .string s.num, .bool s.twin, .slice D' s.stays.length d'] 47) = W0 at *
      go_wp2_with (first | (go_at_call 19; (with_reducible refine (HQ.out _).mono ?_); rintro e w1 ⟨rfl, h1⟩; have c0 := (k0.below h1 k0.lt).cell) | (go_at_call 20; (with_reducible refine (HG.out _).mono ?_); rintro e w2 ⟨rfl, h2⟩; have e2 := h1.trans (h2.mono h1.size); have c1 := (k1.below e2 k1.lt).cell) | (go_at_call 21; (with_reducible refine (HA.out _ (Hr.later e2)).mono ?_); rintro e w3 ⟨rfl, h3⟩; have e3 := e2.trans (h3.mono e2.size); have c2 := (k2.below e3 k2.lt).cell))
      go_ret
      exact ⟨rfl, b0.trans (e3.mono b0.size)⟩
    | true =>
      rw [hrB] at HA
      cases hsB : recB s with
      | false =>
        rw [hsB] at HB
        go_enter Tryz.func7, Tryz.ntmps7
        go_upto_region 1 with fail
        generalize ((w.alloc (.cells #[.int .i64 u.l, .int .i64 u.d, .int .i64 u.y, .int .i64 u.t] 23)).alloc (.cells #[.int .i64 r.id, .slice A r.names.length c, .int .u8 r.suf, .int .i64 r.lo, .int .i64 r.hi, .string r.num, .bool r.twin, .slice D r.stays.length d] 47)).alloc (.cells #[.int .i64 s.id, .slice A' s.names.length c', .int .u8 s.suf, .int .i64 s.lo, .int .i64 s.hi, .string s.num, .bool s.twin, .slice D' s.stays.length d'] 47) = W0 at *
        go_wp2_with (first | (go_at_call 19; (with_reducible refine (HQ.out _).mono ?_); rintro e w1 ⟨rfl, h1⟩; have c0 := (k0.below h1 k0.lt).cell) | (go_at_call 20; (with_reducible refine (HG.out _).mono ?_); rintro e w2 ⟨rfl, h2⟩; have e2 := h1.trans (h2.mono h1.size); have c1 := (k1.below e2 k1.lt).cell) | (go_at_call 21; (with_reducible refine (HA.out _ (Hr.later e2)).mono ?_); rintro e w3 ⟨rfl, h3⟩; have e3 := e2.trans (h3.mono e2.size); have c2 := (k2.below e3 k2.lt).cell) | (go_at_call 21; (with_reducible refine (HB.out _ (Hs.later e3)).mono ?_); rintro e w4 ⟨rfl, h4⟩; have e4 := e3.trans (h4.mono e3.size)))
        go_ret
        exact ⟨rfl, b0.trans (e4.mono b0.size)⟩
      | true =>
        rw [hsB] at HB
        obtain ⟨hR2, hW⟩ := widen_ok (l := l) hR
        have hE : cmpE u r s = 0 := by simp [cmpE, hR, hrB, hsB]
        have hE2 : cmpE (widen u l) r s = 0 := by simp [cmpE, hR2, hrB, hsB]
        have hE3 : cmpE u r r = 0 := by simp [cmpE, hR, hrB]
        have HC := Lib.hid (fun W ha hb => (cmpM_good hE) ▸ hE ▸ compare_any u r s A A' D D' c c' d d' W hsr hss ha hb hc hc')
        have HC2 := Lib.hid (fun W ha hb => (cmpM_good hE2) ▸ hE2 ▸ compare_any (widen u l) r s A A' D D' c c' d d' W hsr hss ha hb hc hc')
        have HC3 := Lib.hid (fun W ha => (cmpM_good hE3) ▸ hE3 ▸ compare_any u r r A A D D c c d d W hsr hsr ha ha hc hc)
        have HF := Lib.hid (moFacts hW r s)
        have hbd := moBounds hR
        have HS3 := Lib.hid (matF_self (u := u) (r := r) hbd.y0 (recB_lohi hrB))
        go_enter Tryz.func7, Tryz.ntmps7
        go_upto_region 1 with fail
        generalize ((w.alloc (.cells #[.int .i64 u.l, .int .i64 u.d, .int .i64 u.y, .int .i64 u.t] 23)).alloc (.cells #[.int .i64 r.id, .slice A r.names.length c, .int .u8 r.suf, .int .i64 r.lo, .int .i64 r.hi, .string r.num, .bool r.twin, .slice D r.stays.length d] 47)).alloc (.cells #[.int .i64 s.id, .slice A' s.names.length c', .int .u8 s.suf, .int .i64 s.lo, .int .i64 s.hi, .string s.num, .bool s.twin, .slice D' s.stays.length d'] 47) = W0 at *
        go_upto_region 6 with (first | (go_at_call 19; (with_reducible refine (HQ.out _).mono ?_); rintro e w1 ⟨rfl, h1⟩; have c0 := (k0.below h1 k0.lt).cell) | (go_at_call 20; (with_reducible refine (HG.out _).mono ?_); rintro e w2 ⟨rfl, h2⟩; have e2 := h1.trans (h2.mono h1.size); have c1 := (k1.below e2 k1.lt).cell) | (go_at_call 21; (with_reducible refine (HA.out _ (Hr.later e2)).mono ?_); rintro e w3 ⟨rfl, h3⟩; have e3 := e2.trans (h3.mono e2.size); have c2 := (k2.below e3 k2.lt).cell) | (go_at_call 21; (with_reducible refine (HB.out _ (Hs.later e3)).mono ?_); rintro e w4 ⟨rfl, h4⟩; have e4 := e3.trans (h4.mono e3.size)))
        have rV := Hr.later e4
        have sV := Hs.later e4
        have uV := Hu.later e4
        have K0 := k0.below e4 k0.lt
        have K1 := k1.below e4 k1.lt
        have K2 := k2.below e4 k2.lt
        have hbV := b0.trans (e4.mono b0.size)
        clear k0 k1 k2 Hr Hs Hu HQ HG HA HB b0 h1 h2 h3 h4 e2 e3 e4 c0 c1 c2 hR hrB hsB hR2 hE hE2 hE3 hW
        generalize w4 = V at *
        clear w1 w2 w3
        have c0 := K0.cell
        go_upto_region 7 with fail
        have hb1 := (Below.refl V.heap.size V).alloc (Nat.le_refl _) (.cells #[.int .i64 u.l, .int .i64 u.d, .int .i64 u.y, .int .i64 u.t] 23)
        have kW := Blk.new V #[.int .i64 u.l, .int .i64 u.d, .int .i64 u.y, .int .i64 u.t] 23
        generalize V.alloc (.cells #[.int .i64 u.l, .int .i64 u.d, .int .i64 u.y, .int .i64 u.t] 23) = V1 at *
        clear c0
        obtain ⟨x0, x1, x2, x3, x4, x5⟩ := hbd
        have HL1 := Lib.hid (lineOk x0 x1 (by decide) (atL_bd uV 0))
        have HL2 := Lib.hid (lineOk x2 x3 (by decide) (atL_bd uV 1))
        have HL3 := Lib.hid (lineOk x4 x5 (by decide) (atL_bd uV 2))
        clear x0 x1 x2 x3 x4 x5
        have HAt := Lib.hid (at_still cl (i := 0) (uV.later hb1.drew) hl (by decide) (by decide))
        go_cut [] (fun wx => Below V.heap.size V wx ∧ Blk wx V.heap.size #[.int .i64 (u.l + atL l 0 % (5 - u.l + 1)), .int .i64 u.d, .int .i64 u.y, .int .i64 u.t] 23)
        case first =>
          have cA := (K0.below hb1 K0.lt).cell
          have cW := kW.cell
          have fW := kW.free
          obtain ⟨q1, q2, q3, q4, q4', q4'', q5, q6, q7⟩ := HL1.out
          clear HL1 HL2 HL3 HC HC2 HC3 HF
          refine wp_region_still_tail 12 (by kernel_rfl) (by kernel_rfl) ?_
          simp only [List.take_succ_cons, List.take_zero, List.drop_succ_cons, List.drop_zero]
          repeat still_step
          still_call (HAt.out)
          repeat still_step
          refine wpStill_nil ?_
          change wpList _ _ _ _ _ V1.drew
          go_wp2_with fail
          all_goals go_meet
          all_goals exact ⟨hb1.drew.setCell (Nat.le_refl _) _, (show Blk V1.drew V.heap.size #[.int .i64 u.l, .int .i64 u.d, .int .i64 u.y, .int .i64 u.t] 23 from kW).set 0 _⟩
        case rest =>
          obtain ⟨hb2, kW2⟩ := hcut
          clear hb1 kW HAt
          generalize wc = V2 at *
          clear V1
          go_upto_region 8 with fail
          have HAt := Lib.hid (at_still cl (i := 1) (uV.later hb2.drew) hl (by decide) (by decide))
          go_cut [] (fun wx => Below V.heap.size V wx ∧ Blk wx V.heap.size #[.int .i64 (u.l + atL l 0 % (5 - u.l + 1)), .int .i64 (u.d + atL l 1 % (5 - u.d + 1)), .int .i64 u.y, .int .i64 u.t] 23)
          case first =>
            have cA := (K0.below hb2 K0.lt).cell
            have cW := kW2.cell
            have fW := kW2.free
            obtain ⟨q1, q2, q3, q4, q4', q4'', q5, q6, q7⟩ := HL2.out
            clear HL1 HL2 HL3 HC HC2 HC3 HF
            refine wp_region_still_tail 12 (by kernel_rfl) (by kernel_rfl) ?_
            simp only [List.take_succ_cons, List.take_zero, List.drop_succ_cons, List.drop_zero]
            repeat still_step
            still_call (HAt.out)
            repeat still_step
            refine wpStill_nil ?_
            change wpList _ _ _ _ _ V2.drew
            go_wp2_with fail
            all_goals go_meet
            all_goals exact ⟨hb2.drew.setCell (Nat.le_refl _) _, (show Blk V2.drew V.heap.size #[.int .i64 (u.l + atL l 0 % (5 - u.l + 1)), .int .i64 u.d, .int .i64 u.y, .int .i64 u.t] 23 from kW2).set 1 _⟩
          case rest =>
            obtain ⟨hb3, kW3⟩ := hcut
            clear hb2 kW2 HAt
            generalize wc = V3 at *
            clear V2
            go_upto_region 9 with fail
            have HAt := Lib.hid (at_still cl (i := 2) (uV.later hb3.drew) hl (by decide) (by decide))
            go_cut [] (fun wx => Below V.heap.size V wx ∧ Blk wx V.heap.size #[.int .i64 (u.l + atL l 0 % (5 - u.l + 1)), .int .i64 (u.d + atL l 1 % (5 - u.d + 1)), .int .i64 (u.y + atL l 2 % (1000 - u.y + 1)), .int .i64 u.t] 23)
            case first =>
              have cA := (K0.below hb3 K0.lt).cell
              have cW := kW3.cell
              have fW := kW3.free
              obtain ⟨q1, q2, q3, q4, q4', q4'', q5, q6, q7⟩ := HL3.out
              clear HL1 HL2 HL3 HC HC2 HC3 HF
              refine wp_region_still_tail 12 (by kernel_rfl) (by kernel_rfl) ?_
              simp only [List.take_succ_cons, List.take_zero, List.drop_succ_cons, List.drop_zero]
              repeat still_step
              still_call (HAt.out)
              repeat still_step
              refine wpStill_nil ?_
              change wpList _ _ _ _ _ V3.drew
              go_wp2_with fail
              all_goals go_meet
              all_goals exact ⟨hb3.drew.setCell (Nat.le_refl _) _, (show Blk V3.drew V.heap.size #[.int .i64 (u.l + atL l 0 % (5 - u.l + 1)), .int .i64 (u.d + atL l 1 % (5 - u.d + 1)), .int .i64 u.y, .int .i64 u.t] 23 from kW3).set 2 _⟩
            case rest =>
              obtain ⟨hb4, kW4⟩ := hcut
              have kW5 : Blk wc V.heap.size #[.int .i64 (widen u l).l, .int .i64 (widen u l).d, .int .i64 (widen u l).y, .int .i64 (widen u l).t] 23 := kW4
              clear hb3 kW3 kW4 HAt HL1 HL2 HL3
              generalize wc = V4 at *
              generalize widen u l = v at *
              have rV4 := rV.later hb4
              have sV4 := sV.later hb4
              have K04 := K0.below hb4 K0.lt
              have K14 := K1.below hb4 K1.lt
              have K24 := K2.below hb4 K2.lt
              have hbV4 := hbV.trans (hb4.mono hbV.size)
              clear rV sV uV K0 K1 K2 hbV hb4 V3
              generalize V.heap.size = gw at *
              clear V
              have c0 := K04.cell
              have c1 := K14.cell
              have c2 := K24.cell
              generalize matF u r s = M at *
              generalize matF v r s = M2 at *
              generalize matF u r r = M3 at *
              go_upto_region 11 with (go_at_call 23; (with_reducible refine (HC.out _ rV4 sV4).mono ?_); rintro e w5 ⟨rfl, h5⟩)
              have E5 := h5.alloc h5.size (.cells #[.int .u8 M.names, .int .u8 M.num, .int .u8 M.born, .int .u8 M.place, .int .u8 M.one] 54)
              have B5 := Blk.new w5 #[.int .u8 M.names, .int .u8 M.num, .int .u8 M.born, .int .u8 M.place, .int .u8 M.one] 54
              have rV5 := rV4.later E5
              have sV5 := sV4.later E5
              have K05 := K04.below E5 K04.lt
              have K15 := K14.below E5 K14.lt
              have K25 := K24.below E5 K24.lt
              have kW6 := kW5.below E5 kW5.lt
              have hb5 := hbV4.trans (E5.mono hbV4.size)
              clear rV4 sV4 K04 K14 K24 kW5 hbV4 E5 h5 HC c0 c1 c2
              generalize w5.alloc (.cells #[.int .u8 M.names, .int .u8 M.num, .int .u8 M.born, .int .u8 M.place, .int .u8 M.one] 54) = V5 at *
              generalize w5.heap.size = b5 at *
              clear w5 V4
              have c0 := kW6.cell
              have c1 := K15.cell
              have c2 := K25.cell
              go_upto_region 12 with (go_at_call 23; (with_reducible refine (HC2.out _ rV5 sV5).mono ?_); rintro e w6 ⟨rfl, h6⟩)
              have E6 := h6.alloc h6.size (.cells #[.int .u8 M2.names, .int .u8 M2.num, .int .u8 M2.born, .int .u8 M2.place, .int .u8 M2.one] 54)
              have B6 := Blk.new w6 #[.int .u8 M2.names, .int .u8 M2.num, .int .u8 M2.born, .int .u8 M2.place, .int .u8 M2.one] 54
              have rV6 := rV5.later E6
              have K06 := K05.below E6 K05.lt
              have K16 := K15.below E6 K15.lt
              have B56 := B5.below E6 B5.lt
              have hb6 := hb5.trans (E6.mono hb5.size)
              clear rV5 sV5 K05 K15 K25 kW6 hb5 E6 h6 HC2 c0 c1 c2 B5
              generalize w6.alloc (.cells #[.int .u8 M2.names, .int .u8 M2.num, .int .u8 M2.born, .int .u8 M2.place, .int .u8 M2.one] 54) = V6 at *
              generalize w6.heap.size = b6 at *
              clear w6 V5
              have c0 := K06.cell
              have c1 := K16.cell
              go_upto_region 13 with (go_at_call 23; (with_reducible refine (HC3.out _ rV6).mono ?_); rintro e w7 ⟨rfl, h7⟩)
              have E7 := h7.alloc h7.size (.cells #[.int .u8 M3.names, .int .u8 M3.num, .int .u8 M3.born, .int .u8 M3.place, .int .u8 M3.one] 54)
              have B7 := Blk.new w7 #[.int .u8 M3.names, .int .u8 M3.num, .int .u8 M3.born, .int .u8 M3.place, .int .u8 M3.one] 54
              have K17 := K16.below E7 K16.lt
              have B57 := B56.below E7 B56.lt
              have B67 := B6.below E7 B6.lt
              have hb7 := hb6.trans (E7.mono hb6.size)
              clear rV6 K06 K16 hb6 E7 h7 HC3 c0 c1 B56 B6
              generalize w7.alloc (.cells #[.int .u8 M3.names, .int .u8 M3.num, .int .u8 M3.born, .int .u8 M3.place, .int .u8 M3.one] 54) = V7 at *
              generalize w7.heap.size = b7 at *
              clear w7 V6
              have c1 := K17.cell
              have c5 := B57.cell
              have c6 := B67.cell
              have c7 := B7.cell
              obtain ⟨fn, fk, fb, fp, fo, fz⟩ := HF.out
              obtain ⟨s1, s2, s3⟩ := HS3.out
              have s3b : (M3.one != 0) = true := by simpa using s3
              have s1b : (M3.names == 3) = true := by simp [s1]
              clear s1 s3 HF HS3
              by_cases hm : M.one = 0
              · have hmb : (M.one != 0) = false := by simp [hm]
                cases hn : r.num.toList.isEmpty with
                | true =>
                  have hk3 : (M3.num == 3) = false := by rw [s2, if_pos hn]; rfl
                  clear s2
                  as_aux_lemma =>
                    go_wp2_with fail
                    all_goals first | (with_reducible exact absurd fn (Int.not_le.2 (by with_reducible assumption))) | (with_reducible exact absurd fk (Int.not_le.2 (by with_reducible assumption))) | (with_reducible exact absurd fb (Int.not_le.2 (by with_reducible assumption))) | (with_reducible exact absurd fo (Int.not_le.2 (by with_reducible assumption))) | (go_ret; exact ⟨rfl, hb7⟩)
                | false =>
                  have hk3 : (M3.num == 3) = true := by rw [s2, if_neg (by simp [hn])]; rfl
                  clear s2
                  as_aux_lemma =>
                    go_wp2_with fail
                    all_goals first | (with_reducible exact absurd fn (Int.not_le.2 (by with_reducible assumption))) | (with_reducible exact absurd fk (Int.not_le.2 (by with_reducible assumption))) | (with_reducible exact absurd fb (Int.not_le.2 (by with_reducible assumption))) | (with_reducible exact absurd fo (Int.not_le.2 (by with_reducible assumption))) | (go_ret; exact ⟨rfl, hb7⟩)
              · have hmb : (M.one != 0) = true := by simpa using hm
                have hmc : (M2.one == 0) = false := by simp; omega
                cases hn : r.num.toList.isEmpty with
                | true =>
                  have hk3 : (M3.num == 3) = false := by rw [s2, if_pos hn]; rfl
                  clear s2
                  as_aux_lemma =>
                    go_wp2_with fail
                    all_goals first | (with_reducible exact absurd fn (Int.not_le.2 (by with_reducible assumption))) | (with_reducible exact absurd fk (Int.not_le.2 (by with_reducible assumption))) | (with_reducible exact absurd fb (Int.not_le.2 (by with_reducible assumption))) | (with_reducible exact absurd fo (Int.not_le.2 (by with_reducible assumption))) | (go_ret; exact ⟨rfl, hb7⟩)
                | false =>
                  have hk3 : (M3.num == 3) = true := by rw [s2, if_neg (by simp [hn])]; rfl
                  clear s2
                  as_aux_lemma =>
                    go_wp2_with fail
                    all_goals first | (with_reducible exact absurd fn (Int.not_le.2 (by with_reducible assumption))) | (with_reducible exact absurd fk (Int.not_le.2 (by with_reducible assumption))) | (with_reducible exact absurd fb (Int.not_le.2 (by with_reducible assumption))) | (with_reducible exact absurd fo (Int.not_le.2 (by with_reducible assumption))) | (go_ret; exact ⟨rfl, hb7⟩)

section
open Go.ChangeShapes Go.WideShapes Go.ChangeAt Go.RowKit Go.Deep

theorem suf_nonneg {r : Rec} (h : RecWf r) : 0 ≤ r.suf := by
  have := h.suf
  simp [Lit.wf] at this
  have h0 : IntKind.u8.min = 0 := by decide
  omega

set_option maxRecDepth 100000 in
set_option maxHeartbeats 1000000 in
theorem matchMore_lifted (os : Os) (started : os.Started) (H : Type) (enc : TypeId × Value → H) :
    ReturnsInHanded {} Tryz.checked os 7 .any (Rows.matchMoreSpec.pre6 enc Tryz.prog Tryz.f7 Rows.matchMoreRow.domain false) (Rows.matchMoreSpec.post enc Tryz.prog Tryz.f7 false true false false) := by
  refine returnsInHanded_of_change (C := Tryz.checked) Tryz.own started (by kernel_rfl) Tryz.func7
    (ChangeSpec.witness6 (enc := enc) (C := Tryz.checked) false ⟨#[], #[.agg #[.int .i64 0, .int .i64 0, .int .i64 0, .int .i64 0], .agg #[.int .i64 0, .slice none 0 0, .int .u8 0, .int .i64 0, .int .i64 0, .string ByteArray.empty, .bool false, .slice none 0 0], .agg #[.int .i64 0, .slice none 0 0, .int .u8 0, .int .i64 0, .int .i64 0, .string ByteArray.empty, .bool false, .slice none 0 0], .slice none 0 0], []⟩ 8 (by kernel_rfl) (by kernel_rfl) (by kernel_rfl) (by kernel_rfl)) ?_
  intro W base args ds gs before hval0 hW _ _
  have hval : ∀ (j : Nat) t v, Tryz.f7.params[j]? = some t → args[j]? = some v → Value.okWide Tryz.prog W .any base t v := hval0
  have hW' := hW
  obtain ⟨p, q, hA0, hV, rfl, _, _⟩ := hW
  have hA : DataW.TrodAll enc Tryz.prog W 0 (fun _ => true) true Tryz.f7.params.toList args.toList ds p := hA0
  rw [Tryz.params7] at hA hval
  obtain ⟨v0, v1, v2, v3, d0, d1, d2, d3, p0, p1, p2, p3, rfl, rfl, rfl, h0, h1, h2, h3⟩ := trodAll_four hA
  obtain ⟨rfl, rfl⟩ := trodVars_none hV
  have k0 := h0
  have k1 := h1
  have k2 := h2
  have k3 := h3
  obtain ⟨cs0, rfl, _⟩ := okWide_struct Tryz.underlying23 (hval 0 23 v0 rfl rfl)
  obtain ⟨cs1, rfl, _⟩ := okWide_struct Tryz.underlying47 (hval 1 47 v1 rfl rfl)
  obtain ⟨cs2, rfl, _⟩ := okWide_struct Tryz.underlying47 (hval 2 47 v2 rfl rfl)
  obtain ⟨a3, n3, m3, rfl⟩ := okWide_slice Tryz.underlying48 (hval 3 48 v3 rfl rfl)
  obtain ⟨f0, hf0⟩ := h0
  obtain ⟨f1, hf1⟩ := h1
  obtain ⟨f2, hf2⟩ := h2
  obtain ⟨f3, hf3⟩ := h3
  obtain ⟨u, hu, _⟩ := rul_of_trod (show DataW.trod enc Tryz.prog W 0 (fun _ => true) true f0 23 cs0.toList = some (d0, p0) from hf0)
  obtain ⟨r, A, c, D, d, hr, hrec, hwf, hc⟩ := rec_of_trod (show DataW.trod enc Tryz.prog W 0 (fun _ => true) true f1 47 cs1.toList = some (d1, p1) from hf1)
  obtain ⟨s, A', c', D', d', hs, hrec', hwf', hc'⟩ := rec_of_trod (show DataW.trod enc Tryz.prog W 0 (fun _ => true) true f2 47 cs2.toList = some (d2, p2) from hf2)
  obtain ⟨L, cl, l, hl3, hU, hlen⟩ := u32s_of_trod (show DataW.trod enc Tryz.prog W 0 (fun _ => true) true f3 48 [.slice a3 n3 m3] = some (d3, p3) from hf3)
  obtain ⟨rfl, rfl, rfl⟩ : a3 = L ∧ n3 = l.length ∧ m3 = cl := by simpa using hl3
  obtain rfl : cs0 = #[.int .i64 u.l, .int .i64 u.d, .int .i64 u.y, .int .i64 u.t] := by rw [← Array.toList_inj, hu]
  obtain rfl : cs1 = #[.int .i64 r.id, .slice A r.names.length c, .int .u8 r.suf, .int .i64 r.lo, .int .i64 r.hi, .string r.num, .bool r.twin, .slice D r.stays.length d] := by rw [← Array.toList_inj, hr]
  obtain rfl : cs2 = #[.int .i64 s.id, .slice A' s.names.length c', .int .u8 s.suf, .int .i64 s.lo, .int .i64 s.hi, .string s.num, .bool s.twin, .slice D' s.stays.length d'] := by rw [← Array.toList_inj, hs]
  clear hA0 hval0 hf0 hf1 hf2 hf3
  simp only [List.append_nil] at hW'
  have hlt : ∀ z ∈ p0 ++ p1 ++ p2 ++ p3, z.block < W.heap.size := fun z hz => by simpa using hW'.lt z hz
  refine (matchMore_any u r s l A A' D D' a3 c c' d d' m3 W (suf_nonneg hwf) (suf_nonneg hwf') hrec hrec' hU hlen hc hc').mono fun e W' ⟨he, hb⟩ => ?_
  subst he
  refine ⟨_, rfl, _, _, _, [], p0 ++ p1 ++ p2 ++ p3, [], hW', ?_, ?_, rfl, hb.frame _, fun h => by cases h⟩
  · exact trodAll_mk1 (shut_bool Tryz.underlying4 true)
  · have ht := trodAll_mk4 (Below.trod Tryz.laidOut (by kernel_rfl) (of_decide_eq_true (by kernel_rfl)) k0 hb fun z hz => hlt z (by simp [hz])) (Below.trod Tryz.laidOut (by kernel_rfl) (of_decide_eq_true (by kernel_rfl)) k1 hb fun z hz => hlt z (by simp [hz]))
      (Below.trod Tryz.laidOut (by kernel_rfl) (of_decide_eq_true (by kernel_rfl)) k2 hb fun z hz => hlt z (by simp [hz])) (Below.trod Tryz.laidOut (by kernel_rfl) (of_decide_eq_true (by kernel_rfl)) k3 hb fun z hz => hlt z (by simp [hz]))
    rw [← List.append_assoc, ← List.append_assoc] at ht
    exact ht

theorem matchMore_holds : Rows.MatchMoreSaid :=
  OpenClaim.holds_of_wide 7 Tryz.f7 rfl rfl rfl rfl rfl rfl rfl ⟨rfl, rfl, rfl, rfl, rfl⟩ rfl rfl rfl rfl rfl (by kernel_rfl) Tryz.func7 (by kernel_rfl)
    (of_decide_eq_true (by kernel_rfl)) (by unfold Func.isWrapper; first | (rw [if_pos (by decide +kernel)]; kernel_rfl) | (rw [if_neg (by decide +kernel)]; exact ⟨rfl, rfl⟩))
    (fun os started H enc _ => matchMore_lifted os started H enc)

#print axioms matchMore_holds
end

end Go.Proofs.YtofckokjeiaphaaGreat
