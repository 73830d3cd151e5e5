/- A number put into a list in order, by the reference. -/
import Derived.Test.YtkpaikampmeooaaGreatDoorTCardP2
import Derived.Test.YtkpaikampmeooaaGreatDoorTCardP3
import Derived.Test.YtkpaikampmeooaaGreatDoorTCode
import Derived.Test.YtkpaikampmeooaaGreatDoorTLast
import Derived.Test.YtkpaikampmeooaaGreatDoorTCardP4
import Derived.Test.YtkpaikampmeooaaGreatDoorAChkR
import Derived.Test.YtkpaikampmeooaaGreatDoorTVal
import Derived.RangeFuncNested
import Derived.RangeFuncBound
import Derived.RangeFuncCalls
import Derived.RangeFuncLeaves
import Derived.RangeFuncBox
import Derived.Shelf.Abstract
import Derived.Shelf.RegionOpen
import Derived.OwnWalkIn
import Derived.TacticsInMore
import Derived.LoopNIn
import Derived.LoopIn
import Derived.Laws.EntriesVeiled

namespace Go.Proofs.YtkpaikampmeooaaGreatDoor
open Go.RowKit Go.Maps

def intC (x : Int) : List Value := [.int .i64 x]
def intCells (l : List Int) : List Value := l.map fun x => .int .i64 x
theorem intCells_len (l : List Int) : (intCells l).length = l.length := by simp [intCells]
theorem intCells_get (l : List Int) (k : Nat) (h : k < l.length) : (intCells l)[k]? = some (.int .i64 l[k]) := by simp [intCells, h]
theorem intCells_set (l : List Int) (k : Nat) (x : Int) : intCells (l.set k x) = (intCells l).set k (.int .i64 x) := by simp [intCells, List.map_set]
theorem intCells_one (l : List Int) : ∀ u ∈ intCells l, u.oneCell' = true := fun u hu => by
  obtain ⟨x, _, rfl⟩ := List.mem_map.1 hu; rfl
theorem intInfo : (Tryz.prog.info? 3).map (fun i => (i.zero, i.size, i.bytes)) = some (some (.int .i64 0), 1, 8) := by kernel_rfl
def intAt (l : List Int) (a : Nat) : Int := l.getD a 0
theorem intAt_get (l : List Int) (a : Nat) (h : a < l.length) : intAt l a = l[a] := by
  unfold intAt; rw [List.getD_eq_getElem?_getD, List.getElem?_eq_getElem h]; rfl
theorem InsInv.congr' {f f' : Nat → Int} {i k : Nat} (h : InsInv f i k) (e : ∀ a, a ≤ i → f a = f' a) : InsInv f' i k := fun a b h1 h2 h3 => by
  rw [← e a (by omega), ← e b h2]; exact h a b h1 h2 h3

/-- A row of numbers of the call's own. -/
structure IW (base : Nat) (w W : World) (A1 : Option Addr) (c1 : Nat) (n : Nat) (tl ml : List Int) : Prop where
  len : ml.length = n
  perm : ml.Perm tl
  own : W.ownsRow base 3 1 (.slice A1 n c1) n (intCells ml)
  bel : Below base w W
theorem iw_drew {base : Nat} {w W : World} {A1 : Option Addr} {c1 n : Nat} {tl ml : List Int} (h : IW base w W A1 c1 n tl ml) : IW base w W.drew A1 c1 n tl ml := ⟨h.len, h.perm, own_below h.own (Below.refl _ _).drew, h.bel.drew⟩
theorem iw_below {base : Nat} {w W W' : World} {A1 : Option Addr} {c1 n : Nat} {tl ml : List Int} (h : IW base w W A1 c1 n tl ml) (hb : Below W.heap.size W W') (hB : base ≤ W.heap.size) : IW base w W' A1 c1 n tl ml := ⟨h.len, h.perm, own_below h.own hb, h.bel.trans (hb.mono hB)⟩
theorem iw_next {base : Nat} {tl ml : List Int} {w V : World} {g c1 m i n : Nat} {x0 x1 : Int} (hn : ml.length = n) (hp : ml.Perm tl) (ownV : V.ownsRow base 3 1 (.slice (some ⟨g, 0, none⟩) n c1) n (intCells ml)) (belV : Below base w V)
    (hm : m + 1 < ml.length) (hi : i < ml.length) (h0 : ml[m] = x0) (h1 : ml[m + 1] = x1) (hlt : x1 < x0) (hI : InsInv (intAt ml) i (m + 1)) :
    ∃ ml', IW base w ((V.setCell ⟨g, m + 1, none⟩ (.int .i64 x0)).setCell ⟨g, m, none⟩ (.int .i64 x1)) (some ⟨g, 0, none⟩) c1 n tl ml' ∧ InsInv (intAt ml') i m := by
  have hgb : base ≤ g := (ownV.lt g rfl).1
  subst h0 h1
  refine ⟨swapL ml (m + 1) (ml[m]'(by omega)) ml[m + 1], ⟨by rw [swapL_len]; exact hn, (swapL_perm ml (m + 1) (by omega) hm).trans hp, ?_, ((belV.setCell (by show base ≤ g; omega) _).setCell (by show base ≤ g; omega) _)⟩, ?_⟩
  · have o := ((ownV.stored (m + 1) (.int .i64 ml[m])).1.stored m (.int .i64 ml[m + 1])).1
    rw [← intCells_set, ← intCells_set] at o
    exact o
  · have h2 := ins_step (f := intAt ml) (i := i) (k := m + 1) (by omega) (by rw [Nat.add_sub_cancel, intAt_get ml m (by omega), intAt_get ml (m + 1) hm]; exact hlt) hI
    rw [Nat.add_sub_cancel] at h2
    refine h2.congr' fun a ha => ?_
    have hg := swapL_get ml (m + 1) (by omega) hm a (by omega)
    simp only [Nat.add_sub_cancel] at hg
    unfold swp
    simp only [Nat.add_sub_cancel]
    rw [intAt_get (swapL ml (m + 1) (ml[m]'(by omega)) ml[m + 1]) a (by rw [swapL_len]; omega), hg, intAt_get ml m (by omega), intAt_get ml (m + 1) hm, intAt_get ml a (by omega)]
theorem int_new (W : World) (n : Int) (t : TypeId) : ∀ j u, (intCells [n])[j]? = some u → (W.alloc (.cells #[.int .i64 n] t)).cell? ((⟨W.heap.size, 0, none⟩ : Addr).add j) = some u := fun j u hj => by
  have := (Blk.new W #[.int .i64 n] t).cell j
  rw [show ((⟨W.heap.size, 0, none⟩ : Addr).add j) = ⟨W.heap.size, j, none⟩ by rw [Addr.add]; simp; exact fun h => h.symm]
  refine this.trans ?_
  rw [← hj]; simp [intCells]

set_option maxRecDepth 100000 in
set_option maxHeartbeats 4000000 in
theorem put4_any (base : Nat) (l : List Int) (A : Option Addr) (c : Nat) (n : Int) (w : World) (hown : w.ownsRow base 3 1 (.slice A l.length c) l.length (intCells l)) (hbase : base ≤ w.heap.size) (hl : l.length ≤ 1000) (hs : l.Pairwise (· ≤ ·)) :
    Calls Tryz.prog 28 #[.slice A l.length c, .int .i64 n] w fun e w' => ∃ A' c', e = .returned (.slice A' (l.length + 1) c') ∧ Hid (∃ ml, ml.Pairwise (· ≤ ·) ∧ IW base w w' A' c' (l.length + 1) (l ++ [n]) ml) := by
  obtain ⟨i0, hi0, hz0, hz1, hz2⟩ := info_parts intInfo
  have HO := Lib.hid hown
  have hB1 := (Below.refl base w).alloc hbase (.cells #[.int .i64 n] 3)
  have HS : Hid (∀ a b, a < b → b < l.length → intAt (l ++ [n]) a ≤ intAt (l ++ [n]) b) := Lib.hid (fun a b h1 h2 => by
    rw [intAt_get _ a (by simp; omega), intAt_get _ b (by simp; omega), List.getElem_append_left (by omega), List.getElem_append_left h2]
    exact (List.pairwise_iff_getElem.1 hs) a b (by omega) h2 h1)
  clear hown hs
  go_enter Tryz.func28, Tryz.ntmps28
  go_upto_region 2 with (at_builtin; refine wpList_append_own_at _ rfl _ _ 35 rfl base 3 i0 _ 1 8 Tryz.underlying35 hi0 hz0 hz1 hz2 rfl (by decide) _ _ _ rfl (HO.out.alloc _) ⟨w.heap.size, 0, none⟩ 1 1 (intCells [n]) rfl rfl (int_new _ _ _) (intCells_one _) (by unfold maxLen; omega) (by omega) (by simp; omega) ?_; intro v' w3 hown3 hg3 _ hat3; have hB3 := hB1.grown hg3 (by simp; omega) (fun k e => (HO.out.lt k e).1); obtain ⟨A3, c3, rfl⟩ := own_slice hown3)
  have hown4 : w3.ownsRow base 3 1 (.slice A3 (l.length + 1) c3) (l.length + 1) (intCells (l ++ [n])) := by
    rw [show intCells (l ++ [n]) = intCells l ++ intCells [n] by simp [intCells]]; exact hown3
  have HW : Hid (IW base w w3 A3 c3 (l.length + 1) (l ++ [n]) (l ++ [n])) := Lib.hid ⟨by simp, List.Perm.refl _, hown4, hB3⟩
  obtain ⟨g, cap, hv, hgb, hglt⟩ := hown4.form (by omega)
  simp only [Value.slice.injEq, true_and] at hv
  obtain ⟨rfl, rfl⟩ := hv
  have hz3 : base ≤ w3.heap.size := Nat.le_trans hbase hB3.size
  clear hown3 hown4 hg3 hB3 hat3 hB1 HO hglt
  generalize hnl : l.length = N at *
  go_wp2_with fail
  go_loopw [5] (fun kk wr => ∃ (k : Nat) (z : Int), k ≤ N ∧ z = k ∧ kk = .int .i64 z ∧ Hid (∃ ml, IW base w wr (some ⟨g, 0, none⟩) c3 (N + 1) (l ++ [n]) ml ∧ InsInv (intAt ml) N k)) (fun kk _ => (vInt kk).toNat)
  case atStart => exact ⟨N, N, Nat.le_refl _, rfl, by go_num, Lib.hid ⟨l ++ [n], HW.out, ins_start fun a b h1 h2 => HS.out a b h1 (by omega)⟩⟩
  case round =>
    obtain ⟨k, z, hk, hzk, rfl, hT2⟩ := hrel
    clear HW HS
    rcases Nat.eq_zero_or_pos k with rfl | hkp
    · have HE : Hid (∃ ml, ml.Pairwise (· ≤ ·) ∧ IW base w wr (some ⟨g, 0, none⟩) c3 (N + 1) (l ++ [n]) ml) := by
        obtain ⟨ml, h1, h2⟩ := hT2.out
        have q := ins_end h2 (.inl rfl)
        refine Lib.hid ⟨ml, List.pairwise_iff_getElem.2 fun a b ha hb hab => ?_, h1⟩
        have := q a b hab (by rw [h1.len] at hb; omega)
        rw [intAt_get ml a ha, intAt_get ml b hb] at this
        exact this
      obtain rfl : z = 0 := by simpa using hzk
      have hd : decide ((0 : Int) < 0) = false := by decide
      clear hzk hT2
      go_wp2_with fail
      go_quiet (fail)
      go_wp2_with fail
      go_ret
      obtain ⟨ml2, o1, o2⟩ := HE.out
      refine ⟨some ⟨g, 0, none⟩, c3, by rw [hnl]; rfl, ?_⟩
      rw [hnl]
      exact Lib.hid ⟨ml2, o1, ⟨o2.len, o2.perm, own_below o2.own (below_drewN (Below.refl _ _) _), below_drewN o2.bel _⟩⟩
    · obtain ⟨m, rfl⟩ : ∃ m, k = m + 1 := ⟨k - 1, by omega⟩
      obtain rfl : z = (m : Int) + 1 := by omega
      clear hzk
      obtain ⟨ml, hO, hI⟩ := hT2.out
      have hml : ml.length = N + 1 := hO.len
      have hown := hO.own
      have hglt : g < wr.heap.size := (hown.lt g rfl).2
      have hzr : base ≤ wr.heap.size := by omega
      have G1 := intCells_get ml (m + 1) (by omega)
      have G0 := intCells_get ml m (by omega)
      generalize hx1 : ml[m + 1] = x1 at G1
      generalize hx0 : ml[m] = x0 at G0
      have a0 : wr.cell? ⟨g, m + 1, none⟩ = some (.int .i64 x1) := (hown.cellAt (m + 1) (by omega)).trans G1
      have b0 : wr.cell? ⟨g, m, none⟩ = some (.int .i64 x0) := (hown.cellAt m (by omega)).trans G0
      have za0 := After.cell (B := wr.heap.size) a0 hglt
      have zb0 := After.cell (B := wr.heap.size) b0 hglt
      have Hx1 := Lib.hid hx1
      have Hx0 := Lib.hid hx0
      have HO := Lib.hid hO
      have HG1 := Lib.hid G1
      have HG0 := Lib.hid G0
      have HI := Lib.hid hI
      have Hml := Lib.hid hml
      clear hx1 hx0 hO hI hown G1 G0 hT2 a0 b0
      have hm1 : (m : Int) + 1 < (N + 1 : Nat) := by omega
      have hm0 : (m : Int) < (N + 1 : Nat) := by omega
      have e1 : ((m : Int) + 1).toNat = m + 1 := by omega
      have e2 : IntKind.i64.wrap ((m : Int) + 1 - 1) = (m : Int) := by rw [show (m : Int) + 1 - 1 = m by omega]; exact IntWalk.i64_in _ (by omega)
      have e3 : ((m : Int) + 1 - 1) = (m : Int) := by omega
      have hg0 : decide ((0 : Int) < (m : Int) + 1) = true := decide_eq_true (by omega)
      have e4 : (0 : Int) < (m : Int) + 1 := by omega
      have e5 : (m : Int) + 1 < (N : Int) + 1 := by omega
      have e6 : (m : Int) < (N : Int) + 1 := by omega
      by_cases hq : x1 < x0
      · have eq1 : decide (x1 < x0) = true := decide_eq_true hq
        have hlt2 := Lib.hid hq
        clear hq
        go_upto_region 3 with fail
        refine wp_region_class_lit (C := fun w' => ∃ z : After wr.heap.size wr, w' = z.val) (by kernel_rfl) (by kernel_rfl) ⟨⟨_, (Below.refl _ _).drew⟩, rfl⟩ ?_
        repeat (go_big_quiet_step (fail))
        refine wpQuiet_nil ?_
        intro wq hw'
        obtain ⟨⟨wz, hz⟩, hw''⟩ := hw'
        dsimp only at hw''
        subst hw''
        have hV := iw_below HO.out hz hzr
        have ownV := hV.own
        have belV := hV.bel
        have HO2 := Lib.hid hV.perm
        clear hV HO za0 zb0 hz
        go_upto_region 5 with fail
        have a0 : wq.cell? ⟨g, m + 1, none⟩ = some (.int .i64 x1) := (ownV.cellAt (m + 1) (by omega)).trans HG1.out
        have fa0 := ownV.frozenAt (m + 1)
        have b0 : wq.cell? ⟨g, m, none⟩ = some (.int .i64 x0) := (ownV.cellAt m (by omega)).trans HG0.out
        have fb0 := ownV.frozenAt m
        have OwnV := Lib.hid ownV
        have hne : m + 1 ≠ m := by omega
        clear ownV
        go_region
        go_wp2_with fail
        go_roundw
        case rel =>
          refine ⟨m, m, by omega, rfl, by first | rfl | go_num, ?_⟩
          obtain ⟨ml2, o1, o2⟩ := iw_next Hml.out HO2.out OwnV.out belV (by rw [Hml.out]; omega) (by rw [Hml.out]; omega) Hx0.out Hx1.out hlt2.out HI.out
          exact Lib.hid ⟨ml2, iw_drew o1, o2⟩
        case measure => simp [vInt]
      · have eq1 : decide (x1 < x0) = false := decide_eq_false hq
        have HE : Hid (∃ ml, ml.Pairwise (· ≤ ·) ∧ IW base w wr (some ⟨g, 0, none⟩) c3 (N + 1) (l ++ [n]) ml) := by
          have q := ins_end HI.out (.inr (by rw [Nat.add_sub_cancel, intAt_get ml m (by omega), intAt_get ml (m + 1) (by omega), Hx0.out, Hx1.out]; omega))
          refine Lib.hid ⟨ml, List.pairwise_iff_getElem.2 fun a b ha hb hab => ?_, HO.out⟩
          have := q a b hab (by have := Hml.out; omega)
          rw [intAt_get ml a ha, intAt_get ml b hb] at this
          exact this
        clear hq HO HI HG1 HG0 Hx1 Hx0 Hml
        go_upto_region 3 with fail
        refine wp_region_class_lit (C := fun w' => ∃ z : After wr.heap.size wr, w' = z.val) (by kernel_rfl) (by kernel_rfl) ⟨⟨_, (Below.refl _ _).drew⟩, rfl⟩ ?_
        repeat (go_big_quiet_step (fail))
        refine wpQuiet_nil ?_
        intro wq hw'
        obtain ⟨⟨wz, hz⟩, hw''⟩ := hw'
        dsimp only at hw''
        subst hw''
        go_wp2_with fail
        go_ret
        obtain ⟨ml2, o1, o2⟩ := HE.out
        refine ⟨some ⟨g, 0, none⟩, c3, by rw [hnl]; rfl, ?_⟩
        rw [hnl]
        exact Lib.hid ⟨ml2, o1, iw_below o2 hz hzr⟩
end Go.Proofs.YtkpaikampmeooaaGreatDoor

namespace Go.Proofs.YtkpaikampmeooaaGreatDoor
open Go.RowKit Go.Maps

/-- A code, homes and reports in memory. -/
structure BurAt (w : World) (B : Nat) (A : Option Addr) (S : Option Addr) (H : Option Addr) (R : Option Addr) (l : List LawT) (s : List StillT) (homes : List HomeT) (rl : List Rep) : Prop where
  laws : Laws w B A l
  stills : Stills w B S s
  homes : HomesAt w B H homes
  reps : Reps w B R rl
theorem BurAt.later {w W : World} {A S H R : Option Addr} {l : List LawT} {s : List StillT} {homes : List HomeT} {rl : List Rep} (h : BurAt w w.heap.size A S H R l s homes rl) (hb : Below w.heap.size w W) : BurAt W W.heap.size A S H R l s homes rl :=
  ⟨h.laws.later hb, h.stills.later hb, h.homes.later hb, h.reps.later hb⟩
/-- What is asked of them. -/
structure BurWf (l : List LawT) (s : List StillT) (homes : List HomeT) (rl : List Rep) : Prop where
  nLaws : l.length ≤ 1000
  nStills : s.length ≤ 1000
  nHomes : homes.length ≤ 1000
  nReps : rl.length ≤ 1000
  lawWf : ∀ x ∈ l, LawWf x
  stillWf : ∀ x ∈ s, StillWf x
  homeWf : ∀ x ∈ homes, HomeWf x
  repWf : ∀ r ∈ rl, RepWf r
theorem max1000 {n : Nat} (h : n ≤ 1000) : n ≤ maxLen := by unfold maxLen; omega

set_option maxRecDepth 100000 in
set_option maxHeartbeats 1000000 in
theorem check4_any {l : List LawT} {s : List StillT} {homes : List HomeT} {rl : List Rep} (hw : BurWf l s homes rl) (A S H R : Option Addr) (c cs ch : Nat) (w : World) (h : BurAt w w.heap.size A S H R l s homes rl) :
    Calls Tryz.prog 11 #[.agg #[.slice A l.length c, .slice S s.length cs], .slice H homes.length ch] w fun e w' => e = .returned (.int .i64 (check4V l s homes)) ∧ Below w.heap.size w w' := by
  have b1 := (Below.refl w.heap.size w).alloc (Nat.le_refl _) (.cells #[.slice A l.length c, .slice S s.length cs] 25)
  have HC := Lib.hid (fun W hb => code4_any l A c s S cs W ((h.later hb).laws) ((h.later hb).stills) (max1000 hw.nLaws) (max1000 hw.nStills) hw.lawWf)
  have HH := Lib.hid (fun W hb => homes4_any homes H ch W ((h.later hb).homes) (max1000 hw.nHomes))
  have HV : Hid (check4V l s homes = if codeB l s = true then (if homesB homes = true then 0 else 41) else 40) := Lib.hid rfl
  clear h hw
  generalize check4V l s homes = z at *
  cases hc : codeB l s with
  | false =>
    rw [hc] at HC HV
    clear hc HH
    go_enter Tryz.func11, Tryz.ntmps11
    go_wp2_with (go_at_call 31; (with_reducible refine (HC.out _ b1).mono ?_); rintro e w1 ⟨rfl, h1⟩)
    go_ret
    exact ⟨by rw [HV.out]; rfl, b1.trans (h1.mono b1.size)⟩
  | true =>
    rw [hc] at HC HV
    clear hc
    cases hh : homesB homes with
    | false =>
      rw [hh] at HH HV
      clear hh
      go_enter Tryz.func11, Tryz.ntmps11
      go_wp2_with (first
        | (go_at_call 31; (with_reducible refine (HC.out _ b1).mono ?_); rintro e w1 ⟨rfl, h1⟩; have b2 := b1.trans (h1.mono b1.size))
        | (go_at_call 32; (with_reducible refine (HH.out _ b2).mono ?_); rintro e w2 ⟨rfl, h2⟩))
      go_ret
      exact ⟨by rw [HV.out]; rfl, b2.trans (h2.mono b2.size)⟩
    | true =>
      rw [hh] at HH HV
      clear hh
      go_enter Tryz.func11, Tryz.ntmps11
      go_wp2_with (first
        | (go_at_call 31; (with_reducible refine (HC.out _ b1).mono ?_); rintro e w1 ⟨rfl, h1⟩; have b2 := b1.trans (h1.mono b1.size))
        | (go_at_call 32; (with_reducible refine (HH.out _ b2).mono ?_); rintro e w2 ⟨rfl, h2⟩))
      go_ret
      exact ⟨by rw [HV.out]; rfl, b2.trans (h2.mono b2.size)⟩

set_option maxRecDepth 100000 in
set_option maxHeartbeats 1000000 in
theorem asked4_any {l : List LawT} {s : List StillT} {homes : List HomeT} {rl : List Rep} (hw : BurWf l s homes rl) (A S H R : Option Addr) (c cs ch cr : Nat) (w : World) (h : BurAt w w.heap.size A S H R l s homes rl) :
    Calls Tryz.prog 19 #[.agg #[.slice A l.length c, .slice S s.length cs], .slice H homes.length ch, .slice R rl.length cr] w fun e w' => e = .returned (.int .i64 (asked4 l s homes rl)) ∧ Below w.heap.size w w' := by
  have b1 := (Below.refl w.heap.size w).alloc (Nat.le_refl _) (.cells #[.slice A l.length c, .slice S s.length cs] 25)
  have HC := Lib.hid (fun W hb => check4_any hw A S H R c cs ch W (h.later hb))
  have HR := Lib.hid (fun W hb => check3_any rl R cr W (h.later hb).reps (max1000 hw.nReps) hw.repWf)
  by_cases hz : check4V l s homes = 0
  · have HV : Hid (asked4 l s homes rl = checkV rl) := Lib.hid (by unfold asked4; rw [if_pos hz])
    rw [hz] at HC
    clear h hw hz
    go_enter Tryz.func19, Tryz.ntmps19
    go_wp2_with (first
      | (go_at_call 11; (with_reducible refine (HC.out _ b1).mono ?_); rintro e w1 ⟨rfl, h1⟩; have b2 := b1.trans (h1.mono b1.size))
      | (go_at_call 38; (with_reducible refine (HR.out _ b2).mono ?_); rintro e w2 ⟨rfl, h2⟩))
    go_ret
    exact ⟨by rw [HV.out]; rfl, b2.trans (h2.mono b2.size)⟩
  · have HV : Hid (asked4 l s homes rl = check4V l s homes) := Lib.hid (by unfold asked4; rw [if_neg hz])
    have hc0 : (check4V l s homes != 0) = true := by simpa using hz
    clear h hw hz
    generalize check4V l s homes = z at *
    go_enter Tryz.func19, Tryz.ntmps19
    go_wp2_with (go_at_call 11; (with_reducible refine (HC.out _ b1).mono ?_); rintro e w1 ⟨rfl, h1⟩)
    go_ret
    exact ⟨by rw [HV.out]; rfl, b1.trans (h1.mono b1.size)⟩

set_option maxRecDepth 100000 in
set_option maxHeartbeats 4000000 in
theorem lastR_any {l : List LawT} {s : List StillT} {homes : List HomeT} {rl : List Rep} (hw : BurWf l s homes rl) (A S H R : Option Addr) (c cs ch cr : Nat) (id day : Int) (w : World) (h : BurAt w w.heap.size A S H R l s homes rl) :
    Calls Tryz.prog 7 #[.agg #[.slice A l.length c, .slice S s.length cs], .slice H homes.length ch, .slice R rl.length cr, .int .i64 id, .int .i64 day] w fun e w' => e = .returned (.tuple #[.int .i64 (lastN l s homes rl id day), .int .i64 (lastE l s homes rl id day)]) ∧ Below w.heap.size w w' := by
  have b1 := (Below.refl w.heap.size w).alloc (Nat.le_refl _) (.cells #[.slice A l.length c, .slice S s.length cs] 25)
  have k1 := Blk.new w #[.slice A l.length c, .slice S s.length cs] 25
  have HA := Lib.hid (fun W hb => asked4_any hw A S H R c cs ch cr W (h.later hb))
  have HWi := Lib.hid (fun W => within4_any day 0 100000 W)
  by_cases hz : asked4 l s homes rl = 0
  · rw [hz] at HA
    cases hd : inN day 0 100000 with
    | false =>
      rw [hd] at HWi
      have he : err4 l s homes rl day = 2 := by unfold err4; rw [if_pos hz, hd]; rfl
      have HV : Hid (lastN l s homes rl id day = 0 ∧ lastE l s homes rl id day = 2) := Lib.hid (by unfold lastN lastE; rw [he]; exact ⟨rfl, rfl⟩)
      clear h hw hz hd he k1
      go_enter Tryz.func7, Tryz.ntmps7
      go_wp2_with (first
        | (go_at_call 19; (with_reducible refine (HA.out _ b1).mono ?_); rintro e w1 ⟨rfl, h1⟩)
        | (go_at_call 20; (with_reducible refine (HWi.out _).mono ?_); rintro e w2 ⟨rfl, rfl⟩))
      go_ret2
      exact ⟨by rw [HV.out.1, HV.out.2]; rfl, b1.trans (h1.mono b1.size)⟩
    | true =>
      rw [hd] at HWi
      have he : err4 l s homes rl day = 0 := by unfold err4; rw [if_pos hz, hd]; rfl
      obtain ⟨⟨hv1, hv2, hv3⟩, hv4, _⟩ := err4_zero.1 he
      have HKp := Lib.hid (laws_keep hv1)
      have HV : Hid (lastN l s homes rl id day = (lastT l homes (standR rl day) id).getD 0 ∧ lastE l s homes rl id day = (if (lastT l homes (standR rl day) id).isSome = true then 0 else 6)) := Lib.hid (by unfold lastN lastE; rw [he]; exact ⟨rfl, rfl⟩)
      have HF := Lib.hid (standR_ok rl day)
      have HS := Lib.hid (fun W hb => standing3F_any rl R cr day W (h.later hb).reps hw.nReps hw.repWf)
      have Hw := Lib.hid hw
      have Hh := Lib.hid h
      have HAt := Lib.hid (fun (K : List Rep) A2 c2 W hK hh => at3_any K A2 c2 id W hh hK)
      have HLT : Hid (∀ facts, lastT l homes facts id = (atR facts id).bind fun r => lastV l homes facts r) := Lib.hid (fun _ => rfl)
      clear h hw hz hd he hv1 hv2 hv3 hv4
      generalize standR rl day = facts at *
      generalize lastN l s homes rl id day = rn at *
      generalize lastE l s homes rl id day = re at *
      generalize standE rl day = se at *
      have hfl : facts.length ≤ maxLen := max1000 (by have := HF.out.len; omega)
      go_enter Tryz.func7, Tryz.ntmps7
      go_upto_region 7 with (first
        | (go_at_call 19; (with_reducible refine (HA.out _ b1).mono ?_); rintro e w1 ⟨rfl, h1⟩; have b2 := b1.trans (h1.mono b1.size); have k2 := k1.below h1 k1.lt)
        | (go_at_call 20; (with_reducible refine (HWi.out _).mono ?_); rintro e w2 ⟨rfl, rfl⟩)
        | (go_at_call 21; (with_reducible refine (HS.out _ b2).mono ?_); rintro e w3 ⟨v3, rfl, o3, h3⟩; have b3 := b2.trans (h3.mono b2.size); have k3 := k2.below h3 k2.lt; obtain ⟨F, cf, rfl⟩ := own_slice o3; have F3 := reps_own o3))
      have b3s := b3.size
      clear k1 k2 h1 h3 o3 HA HWi HS b2
      rcases ixR_cases facts id with ⟨hx, ha⟩ | ⟨k, hk, hx, ha⟩
      · have HC := Lib.hid (hx ▸ HAt.out facts F cf w3 hfl F3)
        have HE : Hid (rn = 0 ∧ re = 6) := Lib.hid (by rw [HV.out.1, HV.out.2, HLT.out, ha]; exact ⟨rfl, rfl⟩)
        clear hx ha k3 F3
        go_wp2_with (go_at_call 22; (with_reducible refine (HC.out).mono ?_); rintro e w4 ⟨rfl, rfl⟩)
        go_ret2
        exact ⟨by rw [HE.out.1, HE.out.2]; rfl, b3⟩
      · have HC := Lib.hid (hx ▸ HAt.out facts F cf w3 hfl F3)
        obtain ⟨b, off, rfl, hb, C⟩ := F3.eight hk
        have hlk : (k : Int) < (facts.length : Int) := by omega
        have hk0 : ¬ (k : Int) < 0 := by omega
        have hfr := HF.out.wf facts[k] (List.getElem_mem hk)
        have hfa : ∀ r ∈ facts, 0 ≤ r.about ∧ r.about ≤ 100000 := fun r hr => (HF.out.wf r hr).about
        have HLa : Hid (∀ x : After w3.heap.size w3, Calls Tryz.prog 23 #[.agg #[.slice A l.length c, .slice S s.length cs], .slice H homes.length ch, .slice (some ⟨b, off, none⟩) facts.length cf, .agg #[.int .i64 facts[k].id, .int .i64 facts[k].src, .int .i64 facts[k].acc, .int .i64 facts[k].made, .int .i64 facts[k].about, .int .u8 facts[k].kind, .int .i64 facts[k].cents, .int .i64 facts[k].of_]] x.val fun e w' => e = .returned (.tuple #[.int .i64 ((lastV l homes facts facts[k]).getD 0), .bool (lastV l homes facts facts[k]).isSome]) ∧ Below x.val.heap.size x.val w') :=
          Lib.hid (fun x => by
            have hx2 := b3.trans (x.property.mono b3s)
            have h9 := Hh.out.later hx2
            exact last4_any l A c (.slice S s.length cs) homes H ch facts _ cf facts[k] x.val h9.laws h9.homes (F3.later x.property) (max1000 Hw.out.nLaws) (max1000 Hw.out.nHomes) hfl HKp.out ⟨hfr.about, hfr.made⟩ hfa)
        have HE : Hid (rn = (lastV l homes facts facts[k]).getD 0 ∧ re = if (lastV l homes facts facts[k]).isSome = true then 0 else 6) := Lib.hid (by rw [HV.out.1, HV.out.2, HLT.out, ha]; exact ⟨rfl, rfl⟩)
        have d0 := After.cell (B := w3.heap.size) C.c0 hb
        have d1 := After.cell (B := w3.heap.size) C.c1 hb
        have d2 := After.cell (B := w3.heap.size) C.c2 hb
        have d3 := After.cell (B := w3.heap.size) C.c3 hb
        have d4 := After.cell (B := w3.heap.size) C.c4 hb
        have d5 := After.cell (B := w3.heap.size) C.c5 hb
        have d6 := After.cell (B := w3.heap.size) C.c6 hb
        have d7 := After.cell (B := w3.heap.size) C.c7 hb
        have k3c := After.cells (B := w3.heap.size) k3.cell k3.lt
        clear hx ha k3 F3 C hfr hfa HAt HLT HV Hh HF
        generalize lastV l homes facts facts[k] = V at *
        go_upto_region 10 with (go_at_call 22; (with_reducible refine (HC.out).mono ?_); rintro e w4 ⟨rfl, rfl⟩)
        refine wp_region_class_lit (C := fun w' => ∃ z : After w3.heap.size w3, w' = z.val) (by kernel_rfl) (by kernel_rfl) ⟨⟨_, (Below.refl _ _).drew⟩, rfl⟩ ?_
        repeat (go_big_quiet_step ((go_at_call 23; with_reducible exact after_of (Nat.le_refl _) _ (HLa.out _))))
        refine wpQuiet_nil ?_
        intro wq hw'
        obtain ⟨⟨wz, hz⟩, hw''⟩ := hw'
        dsimp only at hw''
        subst hw''
        clear d0 d1 d2 d3 d4 d5 d6 d7 k3c HLa
        cases V with
        | none =>
          go_wp2_with fail
          go_ret2
          exact ⟨by rw [HE.out.1, HE.out.2]; rfl, b3.trans (hz.mono b3s)⟩
        | some n =>
          go_wp2_with fail
          go_ret2
          exact ⟨by rw [HE.out.1, HE.out.2]; rfl, b3.trans (hz.mono b3s)⟩
  · have he : err4 l s homes rl day = asked4 l s homes rl := by unfold err4; rw [if_neg hz]
    have HV : Hid (lastN l s homes rl id day = 0 ∧ lastE l s homes rl id day = asked4 l s homes rl) := Lib.hid (by unfold lastN lastE; rw [he, if_neg hz, if_neg hz]; exact ⟨rfl, rfl⟩)
    have hc0 : (asked4 l s homes rl != 0) = true := by simpa using hz
    clear h hw hz he k1
    generalize asked4 l s homes rl = z at *
    go_enter Tryz.func7, Tryz.ntmps7
    go_wp2_with (go_at_call 19; (with_reducible refine (HA.out _ b1).mono ?_); rintro e w1 ⟨rfl, h1⟩)
    go_ret2
    exact ⟨by rw [HV.out.1, HV.out.2]; rfl, b1.trans (h1.mono b1.size)⟩
end Go.Proofs.YtkpaikampmeooaaGreatDoor

namespace Go.Proofs.YtkpaikampmeooaaGreatDoor
open Go.RowKit Go.Maps

set_option maxRecDepth 100000 in
set_option maxHeartbeats 1000000 in
theorem codeValid_any {l : List LawT} {s : List StillT} {homes : List HomeT} {rl : List Rep} (hw : BurWf l s homes rl) (A S H R : Option Addr) (c cs : Nat) (w : World) (h : BurAt w w.heap.size A S H R l s homes rl) :
    Calls Tryz.prog 29 #[.agg #[.slice A l.length c, .slice S s.length cs]] w fun e w' => e = .returned (.bool (codeB l s)) ∧ Below w.heap.size w w' := by
  have b1 := (Below.refl w.heap.size w).alloc (Nat.le_refl _) (.cells #[.slice A l.length c, .slice S s.length cs] 25)
  have k1 := Blk.new w #[.slice A l.length c, .slice S s.length cs] 25
  have HL := Lib.hid (lawsValid_any l A c _ ((h.later b1).laws) hw.nLaws hw.lawWf)
  have HS := Lib.hid (fun W hb => stillsValid_any s S cs W ((h.later hb).stills) hw.nStills)
  have HV : Hid (codeB l s = (lawsB l && stillsB s)) := Lib.hid rfl
  clear h hw
  generalize codeB l s = z at *
  cases hl : lawsB l with
  | false =>
    rw [hl] at HL HV
    clear hl HS k1
    go_enter Tryz.func29, Tryz.ntmps29
    go_wp2_with (go_at_call 48; (with_reducible refine (HL.out).mono ?_); rintro e w1 ⟨rfl, h1⟩)
    go_ret
    exact ⟨by rw [HV.out]; rfl, b1.trans (h1.mono b1.size)⟩
  | true =>
    rw [hl] at HL HV
    clear hl
    have g1 := k1.lt
    generalize hW1 : w.alloc (.cells #[.slice A l.length c, .slice S s.length cs] 25) = W1 at *
    go_enter Tryz.func29, Tryz.ntmps29
    go_upto_region 1 with fail
    clear hW1
    have k1c := k1.cell
    go_wp2_with (first
      | (go_at_call 48; (with_reducible refine (HL.out).mono ?_); rintro e w1 ⟨rfl, h1⟩; have b2 := b1.trans (h1.mono b1.size); have k2c := (k1.below h1 g1).cell)
      | (go_at_call 49; (with_reducible refine (HS.out _ b2).mono ?_); rintro e w2 ⟨rfl, h2⟩))
    go_ret
    exact ⟨by rw [HV.out]; rfl, b2.trans (h2.mono b2.size)⟩

set_option maxRecDepth 100000 in
set_option maxHeartbeats 1000000 in
theorem checkT_any {l : List LawT} {s : List StillT} {homes : List HomeT} {rl : List Rep} (hw : BurWf l s homes rl) (A S H R : Option Addr) (c cs ch : Nat) (w : World) (h : BurAt w w.heap.size A S H R l s homes rl) :
    Calls Tryz.prog 10 #[.agg #[.slice A l.length c, .slice S s.length cs], .slice H homes.length ch] w fun e w' => e = .returned (.int .i64 (check4V l s homes)) ∧ Below w.heap.size w w' := by
  have b1 := (Below.refl w.heap.size w).alloc (Nat.le_refl _) (.cells #[.slice A l.length c, .slice S s.length cs] 25)
  have HC := Lib.hid (fun W hb => codeValid_any hw A S H R c cs W (h.later hb))
  have HH := Lib.hid (fun W hb => homesValid_any homes H ch W ((h.later hb).homes) hw.nHomes)
  have HV : Hid (check4V l s homes = if codeB l s = true then (if homesB homes = true then 0 else 41) else 40) := Lib.hid rfl
  clear h hw
  generalize check4V l s homes = z at *
  cases hc : codeB l s with
  | false =>
    rw [hc] at HC HV
    clear hc HH
    go_enter Tryz.func10, Tryz.ntmps10
    go_wp2_with (go_at_call 29; (with_reducible refine (HC.out _ b1).mono ?_); rintro e w1 ⟨rfl, h1⟩)
    go_ret
    exact ⟨by rw [HV.out]; rfl, b1.trans (h1.mono b1.size)⟩
  | true =>
    rw [hc] at HC HV
    clear hc
    cases hh : homesB homes with
    | false =>
      rw [hh] at HH HV
      clear hh
      go_enter Tryz.func10, Tryz.ntmps10
      go_wp2_with (first
        | (go_at_call 29; (with_reducible refine (HC.out _ b1).mono ?_); rintro e w1 ⟨rfl, h1⟩; have b2 := b1.trans (h1.mono b1.size))
        | (go_at_call 30; (with_reducible refine (HH.out _ b2).mono ?_); rintro e w2 ⟨rfl, h2⟩))
      go_ret
      exact ⟨by rw [HV.out]; rfl, b2.trans (h2.mono b2.size)⟩
    | true =>
      rw [hh] at HH HV
      clear hh
      go_enter Tryz.func10, Tryz.ntmps10
      go_wp2_with (first
        | (go_at_call 29; (with_reducible refine (HC.out _ b1).mono ?_); rintro e w1 ⟨rfl, h1⟩; have b2 := b1.trans (h1.mono b1.size))
        | (go_at_call 30; (with_reducible refine (HH.out _ b2).mono ?_); rintro e w2 ⟨rfl, h2⟩))
      go_ret
      exact ⟨by rw [HV.out]; rfl, b2.trans (h2.mono b2.size)⟩

/-! The land of an account: a function that keeps a map. -/
def LandFn (W : World) (p : Nat) (homes : List HomeT) : Prop := ∃ m, m + 1 = p ∧ p < W.heap.size ∧ W.cell? ⟨p, 0, none⟩ = some (.map (some m)) ∧ MapFn W Tryz.prog 3 m homes.length (landG homes)
theorem LandFn.below {W W' : World} {p : Nat} {homes : List HomeT} (h : LandFn W p homes) (hb : Below W.heap.size W W') : LandFn W' p homes := by
  obtain ⟨m, h0, h1, h2, h3⟩ := h
  exact ⟨m, h0, Nat.lt_of_lt_of_le h1 hb.size, (hb.cell (p := ⟨p, 0, none⟩) h1).trans h2, h3.below hb h3.lt⟩
abbrev landFn (p : Nat) : Value := .func (.func 57) #[] #[.pointer (some ⟨p, 0, none⟩)]
theorem homes_wf {homes : List HomeT} (h : homesB homes = true) : (∀ x ∈ homes, homeB1 x = true) ∧ homes.Pairwise fun a b => a.acc < b.acc := by
  unfold homesB at h
  simp only [Bool.and_eq_true] at h
  refine ⟨List.all_eq_true.1 h.1.2, ?_⟩
  have := chB_pair (fun a b c h1 h2 => by unfold homeLt at *; simp only [decide_eq_true_eq] at *; omega) h.2
  exact this.imp fun h => by unfold homeLt at h; simpa using h
theorem acc_wf {n : Int} (h : 0 ≤ n ∧ n ≤ 999999) : (Lit.int .i64 n).wf = true := WalkArith.wf_i64 (by omega)

set_option maxRecDepth 100000 in
set_option maxHeartbeats 2000000 in
theorem landOf_any (homes : List HomeT) (H : Option Addr) (ch : Nat) (w : World) (h : HomesAt w w.heap.size H homes) (hl : homes.length ≤ 1000) (hv : homesB homes = true) :
    Calls Tryz.prog 34 #[.slice H homes.length ch] w fun e w' => e = .returned (landFn (w.heap.size + 1)) ∧ LandFn w' (w.heap.size + 1) homes ∧ Below w.heap.size w w' := by
  have hmm := @run_makeMap Tryz.prog
  obtain ⟨hv1, hv2⟩ := homes_wf hv
  have HI0 : Hid (Blk ((w.alloc (.map #[] 0)).alloc (.cells #[.map (some w.heap.size)] 107)) (w.heap.size + 1) #[.map (some w.heap.size)] 107 ∧ MapFn ((w.alloc (.map #[] 0)).alloc (.cells #[.map (some w.heap.size)] 107)) Tryz.prog 3 w.heap.size 0 (landG (homes.take 0)) ∧ Below w.heap.size w ((w.alloc (.map #[] 0)).alloc (.cells #[.map (some w.heap.size)] 107))) := by
    have m0 := (MapFn.made w Tryz.prog 3).alloc (.cells #[.map (some w.heap.size)] 107)
    have b2 := Blk.new (w.alloc (.map #[] 0)) #[.map (some w.heap.size)] 107
    simp only [World.size_alloc] at b2
    exact Lib.hid ⟨b2, m0, ((Below.refl _ _).alloc (Nat.le_refl _) _).alloc (by simp) _⟩
  have HV1 := Lib.hid hv1
  have HV2 := Lib.hid hv2
  clear hv hv1 hv2
  go_enter Tryz.func34, Tryz.ntmps34
  go_wp2_with fail
  go_loopw [9] (fun ii wr => ∃ i : Nat, i ≤ homes.length ∧ ii = .int .i64 i ∧ Hid (Blk wr (w.heap.size + 1) #[.map (some w.heap.size)] 107 ∧ MapFn wr Tryz.prog 3 w.heap.size i (landG (homes.take i)) ∧ Below w.heap.size w wr)) (fun ii _ => homes.length - (vInt ii).toNat)
  case atStart => exact ⟨0, Nat.zero_le _, rfl, HI0⟩
  case round =>
    obtain ⟨i, hi, rfl, hR⟩ := hrel
    clear HI0
    obtain ⟨B2, hM, hB⟩ := hR.out
    have k2 := B2.cell
    by_cases hlt : i < homes.length
    · have hil : (i : Int) < (homes.length : Int) := by omega
      obtain ⟨b, off, rfl, hb, C⟩ := homes_at (h.later hB) hlt
      obtain ⟨c0, c1⟩ := C
      have hwf := acc_wf (n := homes[i].acc) (by
        have := HV1.out _ (List.getElem_mem hlt)
        unfold homeB1 at this
        simp only [Bool.and_eq_true, inN_iff] at this
        exact this.1)
      have hne : ∀ x ∈ homes.take i, x.acc ≠ homes[i].acc := fun x hx => by
        obtain ⟨j, hj, rfl⟩ := List.getElem_of_mem hx
        rw [List.length_take] at hj
        rw [List.getElem_take]
        have := (List.pairwise_iff_getElem.1 HV2.out) j i (by omega) hlt (by omega)
        omega
      have hB1 := hB.alloc hB.size (.cells #[.int .i64 homes[i].acc, .int .i64 homes[i].land] 83)
      obtain ⟨w3, hrun3, hput, hg3⟩ := (hM.alloc (.cells #[.int .i64 homes[i].acc, .int .i64 homes[i].land] 83)).put (int_keyed Tryz.underlying3) Tryz.underlying107 (by unfold maxLen; omega) (keyOf_int_mk Tryz.underlying3 hwf) (val := .int .i64 homes[i].land)
      rw [landG_snoc _ _ hne, ← List.take_succ_eq_append_getElem hlt] at hput
      have HJ : Hid (Blk w3 (w.heap.size + 1) #[.map (some w.heap.size)] 107 ∧ MapFn w3 Tryz.prog 3 w.heap.size (i + 1) (landG (homes.take (i + 1))) ∧ Below w.heap.size w w3) := Lib.hid ⟨(B2.alloc _).grown hg3 (by simp), hput, hB1.grown hg3 hB1.size (fun k e => by have := Option.some.inj e; omega)⟩
      have b2lt := B2.lt
      clear hput hM hR B2 hB hB1 hg3 hne
      go_wp2_with fail
      go_roundw
      case rel => exact ⟨i + 1, by omega, by go_num, HJ⟩
      case measure => simp [vInt]; omega
    · have hil : ¬ (i : Int) < (homes.length : Int) := by omega
      obtain rfl : i = homes.length := by omega
      rw [List.take_length] at hM
      have HL : Hid (LandFn wr (w.heap.size + 1) homes) := Lib.hid ⟨_, rfl, B2.lt, k2 0, hM⟩
      clear hR hM
      go_wp2_with fail
      go_ret
      exact ⟨rfl, HL.out, hB⟩

set_option maxRecDepth 100000 in
set_option maxHeartbeats 1000000 in
theorem landFn_any (homes : List HomeT) (p : Nat) (acc : Int) (w : World) (h : LandFn w p homes) (hwf : (Lit.int .i64 acc).wf = true) :
    Calls Tryz.prog 57 #[.int .i64 acc, .pointer (some ⟨p, 0, none⟩)] w fun e w' => e = .returned (.tuple #[.int .i64 ((landV homes acc).getD 0), .bool (landV homes acc).isSome]) ∧ w = w' := by
  obtain ⟨m, _, h1, h2, h3⟩ := h
  have hzero : (zeroValue 3).run Tryz.prog w = .ok (.int .i64 0) w := by kernel_rfl
  have look := h3.lookOk (int_keyed Tryz.underlying3) Tryz.underlying107 hzero (keyOf_int_mk Tryz.underlying3 hwf)
  rw [landG_at] at look
  cases hV : landV homes acc with
  | none =>
    rw [hV] at look
    simp only [Option.map_none, Option.getD_none, Option.isSome_none] at look
    clear h3 hzero hV
    go_enter Tryz.func57, Tryz.ntmps57
    go_wp2_with fail
    go_ret2
    exact ⟨rfl, rfl⟩
  | some n =>
    rw [hV] at look
    simp only [Option.map_some, Option.getD_some, Option.isSome_some] at look
    clear h3 hzero hV
    go_enter Tryz.func57, Tryz.ntmps57
    go_wp2_with fail
    go_ret2
    exact ⟨rfl, rfl⟩

/-! Days. -/
set_option maxRecDepth 100000 in
set_option maxHeartbeats 1000000 in
theorem least_any (l : List Int) (A : Option Addr) (c : Nat) (w : World) (h : Flat 1 intC w w.heap.size A l) (hl : l.length ≤ 1000) :
    Calls Tryz.prog 37 #[.slice A l.length c] w fun e w' => e = .returned (.int .i64 (leastL l)) ∧ w = w' := by
  go_enter Tryz.func37, Tryz.ntmps37
  go_wp2_with fail
  go_loopw [3, 8] (fun zz ii wr => ∃ (i : Nat) (z : Int), i ≤ l.length ∧ zz = .int .i64 z ∧ ii = .int .i64 i ∧ Hid (leastL (l.take i) = z) ∧ w = wr) (fun _ ii _ => l.length - (vInt ii).toNat)
  case atStart => exact ⟨0, 300000, Nat.zero_le _, rfl, rfl, Lib.hid rfl, rfl⟩
  case round =>
    obtain ⟨i, z, hi, rfl, rfl, hR, rfl⟩ := hrel
    by_cases hlt : i < l.length
    · have hil : (i : Int) < (l.length : Int) := by omega
      obtain ⟨b, off, rfl, hb, hc⟩ := h i hlt
      have c0 : w.cell? ⟨b, off + i, none⟩ = some (.int .i64 l[i]) := by have := hc 0 (by omega); simpa [intC] using this
      have HN : Hid (leastL (l.take (i + 1)) = if l[i] < z then l[i] else z) := Lib.hid (by rw [List.take_succ_eq_append_getElem hlt]; unfold leastL; rw [List.foldl_append]; show (if l[i] < leastL (l.take i) then l[i] else leastL (l.take i)) = _; rw [hR.out])
      generalize l[i] = x at *
      by_cases hx : x < z
      · have HJ : Hid (leastL (l.take (i + 1)) = x) := Lib.hid (by rw [HN.out, if_pos hx])
        clear HN hR hc
        go_wp2_with fail
        go_roundw
        case rel => exact ⟨i + 1, x, by omega, by first | rfl | (simp; omega), by go_num, HJ, by first | rfl | trivial⟩
        case measure => simp [vInt]; omega
      · have HJ : Hid (leastL (l.take (i + 1)) = z) := Lib.hid (by rw [HN.out, if_neg hx])
        clear HN hR hc
        go_wp2_with fail
        go_roundw
        case rel => exact ⟨i + 1, z, by omega, by first | rfl | (simp; omega), by go_num, HJ, by first | rfl | trivial⟩
        case measure => simp [vInt]; omega
    · have hil : ¬ (i : Int) < (l.length : Int) := by omega
      obtain rfl : i = l.length := by omega
      have hv : Hid (leastL l = z) := Lib.hid (by have := hR.out; rw [List.take_length] at this; exact this)
      go_wp2_with fail
      go_ret
      exact ⟨by rw [hv.out]; rfl, rfl⟩

theorem intC_flat : ∀ l : List Int, l.flatMap intC = intCells l
  | [] => rfl
  | x :: t => by rw [List.flatMap_cons, intC_flat t]; rfl
theorem closingsL_snoc (l : List Rep) (r : Rep) (acc : Int) : closingsL (l ++ [r]) acc = closingsL l acc ++ (if r.kind = 7 ∧ r.acc = acc then [r.about] else []) := by
  unfold closingsL
  rw [List.filter_append, List.map_append]
  by_cases h : r.kind = 7 ∧ r.acc = acc
  · rw [if_pos h]; simp [h]
  · rw [if_neg h]; simp [h]
theorem closingsL_len (l : List Rep) (acc : Int) : (closingsL l acc).length ≤ l.length := by
  unfold closingsL; rw [List.length_map]; exact List.length_filter_le _ _

set_option maxRecDepth 100000 in
set_option maxHeartbeats 2000000 in
theorem closings_any (l : List Rep) (A : Option Addr) (c : Nat) (acc : Int) (w : World) (h : Reps w w.heap.size A l) (hl : l.length ≤ 1000) :
    Calls Tryz.prog 61 #[.slice A l.length c, .int .i64 acc] w fun e w' => ∃ A' c', e = .returned (.slice A' (closingsL l acc).length c') ∧ Flat 1 intC w' w'.heap.size A' (closingsL l acc) ∧ Below w.heap.size w w' := by
  obtain ⟨i0, hi0, hz0, hz1, hz2⟩ := info_parts intInfo
  go_enter Tryz.func61, Tryz.ntmps61
  go_wp2_with fail
  go_loopw [5, 10] (fun vv ii wr => ∃ (i : Nat) (A2 : Option Addr) (c2 : Nat), i ≤ l.length ∧ vv = .slice A2 (closingsL (l.take i) acc).length c2 ∧ ii = .int .i64 i ∧ Hid (wr.ownsRow w.heap.size 3 1 (.slice A2 (closingsL (l.take i) acc).length c2) (closingsL (l.take i) acc).length (intCells (closingsL (l.take i) acc)) ∧ Below w.heap.size w wr)) (fun _ ii _ => l.length - (vInt ii).toNat)
  case atStart => exact ⟨0, none, 0, Nat.zero_le _, rfl, rfl, Lib.hid ⟨World.ownsRow_nil _ _ _ _, Below.refl _ _⟩⟩
  case round =>
    obtain ⟨i, A2, c2, hi, rfl, rfl, hR⟩ := hrel
    by_cases hlt : i < l.length
    · have hil : (i : Int) < (l.length : Int) := by omega
      obtain ⟨hO, hB⟩ := hR.out
      obtain ⟨b, off, rfl, hb, C⟩ := (h.later hB).eight hlt
      have HT : Hid (closingsL (l.take (i + 1)) acc = closingsL (l.take i) acc ++ (if l[i].kind = 7 ∧ l[i].acc = acc then [l[i].about] else [])) := Lib.hid (by rw [← closingsL_snoc, List.take_succ_eq_append_getElem hlt])
      have hKl : (closingsL (l.take i) acc).length ≤ 1000 := Nat.le_trans (closingsL_len _ _) (by rw [List.length_take]; omega)
      generalize l[i] = r at *
      generalize closingsL (l.take i) acc = K at *
      obtain ⟨c0, c1, c2', c3, c4, c5, c6, c7⟩ := C
      have hB1 := hB.alloc hB.size (.cells #[.int .i64 r.id, .int .i64 r.src, .int .i64 r.acc, .int .i64 r.made, .int .i64 r.about, .int .u8 r.kind, .int .i64 r.cents, .int .i64 r.of_] 56)
      have hzw : w.heap.size ≤ wr.heap.size := hB.size
      have HO := Lib.hid hO
      clear hO hR
      by_cases hk : r.kind = 7
      · have ek : (r.kind == 7) = true := by simp [hk]
        by_cases ha : r.acc = acc
        · have ea : (r.acc == acc) = true := by simp [ha]
          have HJ : Hid (closingsL (l.take (i + 1)) acc = K ++ [r.about]) := Lib.hid (by rw [HT.out, if_pos ⟨hk, ha⟩])
          clear hk ha HT
          have hB2 := hB1.alloc hB1.size (.cells #[.int .i64 r.about] 3)
          go_wp2_with (at_builtin; refine wpList_append_own_at _ rfl _ _ 35 rfl w.heap.size 3 i0 _ 1 8 Tryz.underlying35 hi0 hz0 hz1 hz2 rfl (by decide) _ _ _ rfl ((HO.out.alloc _).alloc _) ⟨wr.heap.size + 1, 0, none⟩ 1 1 (intCells [r.about]) rfl rfl (by have q := int_new (wr.alloc (.cells #[.int .i64 r.id, .int .i64 r.src, .int .i64 r.acc, .int .i64 r.made, .int .i64 r.about, .int .u8 r.kind, .int .i64 r.cents, .int .i64 r.of_] 56)) r.about 3; rw [World.size_alloc] at q; exact q) (intCells_one _) (by unfold maxLen; omega) (by omega) (by simp; omega) ?_; intro v' w3 hown3 hg3 _ hat3; have hB3 := hB2.grown hg3 (by simp; omega) (fun k e => (HO.out.lt k e).1); obtain ⟨A3, c3, rfl⟩ := own_slice hown3)
          go_roundw
          case rel => exact ⟨i + 1, A3, c3, by omega, by rw [HJ.out, List.length_append]; rfl, by go_num, Lib.hid ⟨by rw [HJ.out, List.length_append, show intCells (K ++ [r.about]) = intCells K ++ intCells [r.about] by simp [intCells]]; exact hown3, hB3⟩⟩
          case measure => simp [vInt]; omega
        · have ea : (r.acc == acc) = false := by simpa using ha
          have HJ : Hid (closingsL (l.take (i + 1)) acc = K) := Lib.hid (by rw [HT.out, if_neg (fun e => ha e.2), List.append_nil])
          clear hk ha HT
          go_wp2_with fail
          go_roundw
          case rel => exact ⟨i + 1, A2, c2, by omega, by rw [HJ.out], by go_num, Lib.hid ⟨by rw [HJ.out]; exact HO.out.alloc _, hB1⟩⟩
          case measure => simp [vInt]; omega
      · have ek : (r.kind == 7) = false := by simpa using hk
        have HJ : Hid (closingsL (l.take (i + 1)) acc = K) := Lib.hid (by rw [HT.out, if_neg (fun e => hk e.1), List.append_nil])
        clear hk HT
        go_wp2_with fail
        go_roundw
        case rel => exact ⟨i + 1, A2, c2, by omega, by rw [HJ.out], by go_num, Lib.hid ⟨by rw [HJ.out]; exact HO.out.alloc _, hB1⟩⟩
        case measure => simp [vInt]; omega
    · have hil : ¬ (i : Int) < (l.length : Int) := by omega
      obtain rfl : i = l.length := by omega
      obtain ⟨hO, hB⟩ := hR.out
      rw [List.take_length] at hO
      have HF : Hid (Flat 1 intC wr wr.heap.size A2 (closingsL l acc)) := Lib.hid (Flat.of_own (n := 1) (f := intC) (fun _ => rfl) (by decide) (by rw [intC_flat]; exact hO))
      clear hR hO
      simp only [List.take_length]
      go_wp2_with fail
      go_ret
      first | exact ⟨A2, c2, rfl, HF.out, hB⟩ | exact ⟨A2, ⟨c2, rfl⟩, HF.out, hB⟩
end Go.Proofs.YtkpaikampmeooaaGreatDoor

namespace Go.Proofs.YtkpaikampmeooaaGreatDoor
open Go.RowKit Go.Maps

def lawP (laws : List LawT) (homes : List HomeT) (r : Rep) : Option LawT := (landV homes r.acc).bind fun n => lawOf laws n r.kind
theorem lawP_eq {laws : List LawT} {homes : List HomeT} (h : lawsB laws = true) (r : Rep) : lawP laws homes r = lawOf laws (landR homes r.acc) r.kind := by
  unfold lawP landR
  cases landV homes r.acc with
  | some n => rfl
  | none =>
    refine (lawOf_none fun x hx e => ?_).symm
    unfold lawsB at h
    simp only [Bool.and_eq_true] at h
    have := List.all_eq_true.1 h.1.2 x hx
    unfold lawB1 at this
    simp only [Bool.and_eq_true, inN_iff] at this
    have e1 := e.1
    simp at e1
    omega
theorem laws_scope {laws : List LawT} (h : lawsB laws = true) : (∀ x ∈ laws, ScopeWf (scopeOf x)) ∧ laws.Pairwise fun a b => scopeOf a ≠ scopeOf b := by
  unfold lawsB at h
  simp only [Bool.and_eq_true] at h
  refine ⟨fun x hx => ?_, ?_⟩
  · have := List.all_eq_true.1 h.1.2 x hx
    unfold lawB1 at this
    simp only [Bool.and_eq_true, inN_iff] at this
    exact ⟨WalkArith.wf_i64 (by show -9223372036854775808 ≤ x.land ∧ x.land ≤ 9223372036854775807; omega), by
      have : 0 ≤ x.kind ∧ x.kind ≤ 255 := by omega
      simpa [scopeOf, Lit.wf, IntKind.min, IntKind.max, IntKind.signed, IntKind.bits] using this⟩
  · have := chB_pair (fun a b c h1 h2 => by rw [lawLt_iff] at *; omega) h.2
    exact this.imp fun {a b} h e => by
      rw [lawLt_iff] at h
      simp only [scopeOf, Prod.mk.injEq] at e
      omega
/-- Laws by land and kind, in a map of the call's own. -/
abbrev LawFn (W : World) (m n : Nat) (laws : List LawT) : Prop := MapFn W Tryz.prog 89 m n (lawG laws)
/-- A fact's law, as a value. -/
def lawVal : Option LawT → Value
  | none => .agg #[.int .i64 0, .int .u8 0, .int .u8 0, .int .i64 0]
  | some x => .agg #[.int .i64 x.land, .int .u8 x.kind, .int .u8 x.base, .int .i64 x.keep]
/-- What lies in a bureau, but for its laws and statements about silence. -/
structure BurM (W : World) (m n p q : Nat) (F : Option Addr) (cf : Nat) (laws : List LawT) (homes : List HomeT) (facts : List Rep) : Prop where
  law : LawFn W m n laws
  land : LandFn W p homes
  start : q < W.heap.size ∧ W.cell? ⟨q, 0, none⟩ = some (.slice F facts.length cf)
  reps : Reps W W.heap.size F facts
theorem BurM.below {W W' : World} {m n p q : Nat} {F : Option Addr} {cf : Nat} {laws : List LawT} {homes : List HomeT} {facts : List Rep} (h : BurM W m n p q F cf laws homes facts) (hb : Below W.heap.size W W') : BurM W' m n p q F cf laws homes facts :=
  ⟨h.law.below hb h.law.lt, h.land.below hb, ⟨Nat.lt_of_lt_of_le h.start.1 hb.size, (hb.cell (p := ⟨q, 0, none⟩) h.start.1).trans h.start.2⟩, h.reps.later hb⟩
theorem lawZero (w : World) : (zeroValue 79).run Tryz.prog w = .ok (.agg #[.int .i64 0, .int .u8 0, .int .u8 0, .int .i64 0]) w := by kernel_rfl

set_option maxRecDepth 100000 in
set_option maxHeartbeats 4000000 in
theorem law_any (X0 X1 X2 X3 X6 X7 X8 X9 : Value) (m n p : Nat) (laws : List LawT) (homes : List HomeT) (r : Rep) (w : World) (hL : LawFn w m n laws) (hH : LandFn w p homes) (hv : lawsB laws = true) (hvh : homesB homes = true) (hr : FactWf r) :
    Calls Tryz.prog 36 #[.agg #[X0, X1, X2, X3, .map (some m), landFn p, X6, X7, X8, X9], .agg #[.int .i64 r.id, .int .i64 r.src, .int .i64 r.acc, .int .i64 r.made, .int .i64 r.about, .int .u8 r.kind, .int .i64 r.cents, .int .i64 r.of_]] w fun e w' => e = .returned (.tuple #[lawVal (lawP laws homes r), .bool (lawP laws homes r).isSome]) ∧ Below w.heap.size w w' := by
  have kb := ((Blk.new w #[X0, X1, X2, X3, .map (some m), landFn p, X6, X7, X8, X9] 51).alloc (.cells #[.int .i64 r.id, .int .i64 r.src, .int .i64 r.acc, .int .i64 r.made, .int .i64 r.about, .int .u8 r.kind, .int .i64 r.cents, .int .i64 r.of_] 56)).alloc (.cells #[.int .i64 0, .int .u8 0, .int .u8 0, .int .i64 0] 79)
  have kr := (Blk.new (w.alloc (.cells #[X0, X1, X2, X3, .map (some m), landFn p, X6, X7, X8, X9] 51)) #[.int .i64 r.id, .int .i64 r.src, .int .i64 r.acc, .int .i64 r.made, .int .i64 r.about, .int .u8 r.kind, .int .i64 r.cents, .int .i64 r.of_] 56).alloc (.cells #[.int .i64 0, .int .u8 0, .int .u8 0, .int .i64 0] 79)
  have kl := Blk.new ((w.alloc (.cells #[X0, X1, X2, X3, .map (some m), landFn p, X6, X7, X8, X9] 51)).alloc (.cells #[.int .i64 r.id, .int .i64 r.src, .int .i64 r.acc, .int .i64 r.made, .int .i64 r.about, .int .u8 r.kind, .int .i64 r.cents, .int .i64 r.of_] 56)) #[.int .i64 0, .int .u8 0, .int .u8 0, .int .i64 0] 79
  have b1 := (((Below.refl w.heap.size w).alloc (Nat.le_refl _) (.cells #[X0, X1, X2, X3, .map (some m), landFn p, X6, X7, X8, X9] 51)).alloc (by simp) (.cells #[.int .i64 r.id, .int .i64 r.src, .int .i64 r.acc, .int .i64 r.made, .int .i64 r.about, .int .u8 r.kind, .int .i64 r.cents, .int .i64 r.of_] 56)).alloc (by simp; omega) (.cells #[.int .i64 0, .int .u8 0, .int .u8 0, .int .i64 0] 79)
  simp only [World.size_alloc] at kr kl
  have hL1 := hL.below b1 hL.lt
  have hH1 := hH.below b1
  obtain ⟨hs1, hs2⟩ := laws_scope hv
  have hn0 : Hid (w.heap.size ≤ w.heap.size + 1 + 1) := Lib.hid (by omega)
  clear hL hH
  go_enter Tryz.func36, Tryz.ntmps36
  go_upto_region 1 with fail
  generalize hW1 : ((w.alloc (.cells #[X0, X1, X2, X3, .map (some m), landFn p, X6, X7, X8, X9] 51)).alloc (.cells #[.int .i64 r.id, .int .i64 r.src, .int .i64 r.acc, .int .i64 r.made, .int .i64 r.about, .int .u8 r.kind, .int .i64 r.cents, .int .i64 r.of_] 56)).alloc (.cells #[.int .i64 0, .int .u8 0, .int .u8 0, .int .i64 0] 79) = W1 at *
  clear hW1
  have kbc := kb.cell
  have krc := kr.cell
  have klc := kl.cell
  have klf := kl.free
  have hacc := acc_wf hr.acc
  have HC := Lib.hid (landFn_any homes p r.acc W1 hH1 hacc)
  cases hV : landV homes r.acc with
  | none =>
    rw [hV] at HC
    have HE : Hid (lawP laws homes r = none) := Lib.hid (by unfold lawP; rw [hV]; rfl)
    clear hV hH1 hL1 hs1 hs2 hr hacc hv hvh kb kr
    go_wp2_with (go_at_call 57; (with_reducible refine (HC.out).mono ?_); rintro e w2 ⟨rfl, rfl⟩)
    have hrc := ((((kl.set 0 (.int .i64 0)).set 1 (.int .u8 0)).set 2 (.int .u8 0)).set 3 (.int .i64 0)).cell
    refine bodyPost_ret (v := .tuple #[.agg #[.int .i64 0, .int .u8 0, .int .u8 0, .int .i64 0], .bool false]) (by simp [results, Tryz.results36, go_sem, hrc]) rfl ⟨by rw [HE.out]; rfl, ?_⟩
    exact (((b1.setCell (p := ⟨w.heap.size + 1 + 1, 0, none⟩) hn0.out _).setCell (p := ⟨w.heap.size + 1 + 1, 1, none⟩) hn0.out _).setCell (p := ⟨w.heap.size + 1 + 1, 2, none⟩) hn0.out _).setCell (p := ⟨w.heap.size + 1 + 1, 3, none⟩) hn0.out _
  | some z =>
    rw [hV] at HC
    have hzl : 0 ≤ z ∧ z ≤ 99 := by
      obtain ⟨hv1, _⟩ := homes_wf hvh
      unfold landV at hV
      obtain ⟨x, hx, rfl⟩ := Option.map_eq_some_iff.1 hV
      have := hv1 x (List.mem_of_find?_eq_some hx)
      unfold homeB1 at this
      simp only [Bool.and_eq_true, inN_iff] at this
      exact this.2
    have hsw : ScopeWf (z, r.kind) := ⟨WalkArith.wf_i64 (by show -9223372036854775808 ≤ z ∧ z ≤ 9223372036854775807; omega), by
      have h1 := hr.kind
      have : 0 ≤ r.kind ∧ r.kind ≤ 255 := by omega
      simpa [Lit.wf, IntKind.min, IntKind.max, IntKind.signed, IntKind.bits] using this⟩
    have look := hL1.lookOk scopeKeyed Tryz.underlying46 (lawZero W1) (scopeKey hsw)
    rw [lawG_at _ _ _ hsw hs1] at look
    have HE : Hid (lawP laws homes r = lawOf laws z r.kind) := Lib.hid (by unfold lawP; rw [hV]; rfl)
    cases hO : lawOf laws z r.kind with
    | none =>
      rw [hO] at look HE
      simp only [Option.map_none, Option.getD_none, Option.isSome_none] at look
      clear hV hH1 hL1 hs1 hs2 hr hacc hv hvh hsw hzl hO
      have kx := Blk.new W1 #[.int .i64 0, .int .u8 0, .int .u8 0, .int .i64 0] 79
      have bx := b1.alloc b1.size (.cells #[.int .i64 0, .int .u8 0, .int .u8 0, .int .i64 0] 79)
      have kl2 := kl.alloc (.cells #[.int .i64 0, .int .u8 0, .int .u8 0, .int .i64 0] 79)
      have hne : W1.heap.size ≠ w.heap.size + 1 + 1 := by have := kl.lt; omega
      go_upto_region 5 with (go_at_call 57; (with_reducible refine (HC.out).mono ?_); rintro e w2 ⟨rfl, rfl⟩)
      clear kbc krc klc klf look kb kr kl
      generalize hW2 : W1.alloc (.cells #[.int .i64 0, .int .u8 0, .int .u8 0, .int .i64 0] 79) = W2 at *
      clear hW2
      have kxc := kx.cell
      have klf := kl2.free
      have klc := kl2.cell
      go_wp2_with fail
      have hrc := ((((kl2.set 0 (.int .i64 0)).set 1 (.int .u8 0)).set 2 (.int .u8 0)).set 3 (.int .i64 0)).cell
      refine bodyPost_ret (v := .tuple #[.agg #[.int .i64 0, .int .u8 0, .int .u8 0, .int .i64 0], .bool false]) (by simp [results, Tryz.results36, go_sem, hrc]) rfl ⟨by rw [HE.out]; rfl, ?_⟩
      exact (((bx.setCell (p := ⟨w.heap.size + 1 + 1, 0, none⟩) hn0.out _).setCell (p := ⟨w.heap.size + 1 + 1, 1, none⟩) hn0.out _).setCell (p := ⟨w.heap.size + 1 + 1, 2, none⟩) hn0.out _).setCell (p := ⟨w.heap.size + 1 + 1, 3, none⟩) hn0.out _
    | some x =>
      rw [hO] at look HE
      simp only [Option.map_some, Option.getD_some, Option.isSome_some] at look
      clear hV hH1 hL1 hs1 hs2 hr hacc hv hvh hsw hzl hO
      have kx := Blk.new W1 #[.int .i64 x.land, .int .u8 x.kind, .int .u8 x.base, .int .i64 x.keep] 79
      have bx := b1.alloc b1.size (.cells #[.int .i64 x.land, .int .u8 x.kind, .int .u8 x.base, .int .i64 x.keep] 79)
      have kl2 := kl.alloc (.cells #[.int .i64 x.land, .int .u8 x.kind, .int .u8 x.base, .int .i64 x.keep] 79)
      have hne : W1.heap.size ≠ w.heap.size + 1 + 1 := by have := kl.lt; omega
      go_upto_region 5 with (go_at_call 57; (with_reducible refine (HC.out).mono ?_); rintro e w2 ⟨rfl, rfl⟩)
      clear kbc krc klc klf look kb kr kl
      generalize hW2 : W1.alloc (.cells #[.int .i64 x.land, .int .u8 x.kind, .int .u8 x.base, .int .i64 x.keep] 79) = W2 at *
      clear hW2
      have kxc := kx.cell
      have klf := kl2.free
      have klc := kl2.cell
      go_wp2_with fail
      have hrc := ((((kl2.set 0 (.int .i64 x.land)).set 1 (.int .u8 x.kind)).set 2 (.int .u8 x.base)).set 3 (.int .i64 x.keep)).cell
      refine bodyPost_ret (v := .tuple #[.agg #[.int .i64 x.land, .int .u8 x.kind, .int .u8 x.base, .int .i64 x.keep], .bool true]) (by simp [results, Tryz.results36, go_sem, hrc]) rfl ⟨by rw [HE.out]; rfl, ?_⟩
      exact (((bx.setCell (p := ⟨w.heap.size + 1 + 1, 0, none⟩) hn0.out _).setCell (p := ⟨w.heap.size + 1 + 1, 1, none⟩) hn0.out _).setCell (p := ⟨w.heap.size + 1 + 1, 2, none⟩) hn0.out _).setCell (p := ⟨w.heap.size + 1 + 1, 3, none⟩) hn0.out _
end Go.Proofs.YtkpaikampmeooaaGreatDoor

namespace Go.Proofs.YtkpaikampmeooaaGreatDoor
open Go.RowKit Go.Maps

/-- What 'open' answers where nothing is wrong. -/
def OpenOk (l : List LawT) (s : List StillT) (homes : List HomeT) (rl : List Rep) (A S H R : Option Addr) (c cs ch cr : Nat) (day : Int) (W : World) : Prop :=
  Calls Tryz.prog 15 #[.agg #[.slice A l.length c, .slice S s.length cs], .slice H homes.length ch, .slice R rl.length cr, .int .i64 day] W fun e w' => ∃ m n p q F cf, e = .returned (.tuple #[.agg #[.slice A l.length c, .slice S s.length cs, .int .i64 day, .slice F (standR rl day).length cf, .map (some m), landFn p, .nilFunc, .func (.func 58) #[] #[], .func (.func 59) #[] #[], .func (.func 60) #[] #[.pointer (some ⟨q, 0, none⟩)]], .int .i64 0]) ∧ BurM w' m n p q F cf l homes (standR rl day) ∧ Below W.heap.size W w'
/-- What a bureau's 'last' answers. -/
def LastOk (l : List LawT) (homes : List HomeT) (facts : List Rep) : Prop :=
  ∀ (X0 X1 X2 X3 : Value) (m n p q : Nat) (F : Option Addr) (cf : Nat) (r : Rep) (w : World), BurM w m n p q F cf l homes facts → r ∈ facts →
    Calls Tryz.prog 18 #[.agg #[X0, X1, X2, X3, .map (some m), landFn p, .nilFunc, .func (.func 58) #[] #[], .func (.func 59) #[] #[], .func (.func 60) #[] #[.pointer (some ⟨q, 0, none⟩)]], .agg #[.int .i64 r.id, .int .i64 r.src, .int .i64 r.acc, .int .i64 r.made, .int .i64 r.about, .int .u8 r.kind, .int .i64 r.cents, .int .i64 r.of_]] w fun e w' => e = .returned (.tuple #[.int .i64 ((lastV l homes facts r).getD 0), .bool (lastV l homes facts r).isSome]) ∧ Below w.heap.size w w'

end Go.Proofs.YtkpaikampmeooaaGreatDoor

namespace Go.Proofs.YtkpaikampmeooaaGreatDoor
open Go.RowKit Go.Maps Go.Shelf

attribute [local go_sem] Oper.semAt_some

/-- A fact and its last day. -/
abbrev ShW := { x : Rep × Int // FactWf x.1 }
abbrev encS (x : ShW) : Array Value := #[.agg #[.int .i64 x.val.1.id, .int .i64 x.val.1.src, .int .i64 x.val.1.acc, .int .i64 x.val.1.made, .int .i64 x.val.1.about, .int .u8 x.val.1.kind, .int .i64 x.val.1.cents, .int .i64 x.val.1.of_], .int .i64 x.val.2]
/-- The cells of a bureau. -/
abbrev burCells (X0 X1 : Value) (day : Int) (F : Option Addr) (nf cf m p q : Nat) : Array Value := #[X0, X1, .int .i64 day, .slice F nf cf, .map (some m), landFn p, .nilFunc, .func (.func 58) #[] #[], .func (.func 59) #[] #[], .func (.func 60) #[] #[.pointer (some ⟨q, 0, none⟩)]]

set_option maxRecDepth 100000 in
set_option maxHeartbeats 4000000 in
theorem shown1_in (n : Nat) (hn : 1 ≤ n) (l Bs B0 mB : Nat) (X0 X1 : Value) (m k p q : Nat) (F : Option Addr) (cf : Nat) (laws : List LawT) (homes : List HomeT) (facts : List Rep) (day : Int) (w0 : World) (hM0 : BurM w0 m k p q F cf laws homes facts) (hLa : LastOk laws homes facts) (hf : facts.length ≤ 60) (hfw : ∀ r ∈ facts, FactWf r)
    (h1 : w0.heap.size ≤ mB) (h2 : w0.heap.size ≤ B0) (h3 : Bs < B0) (h4 : Bs ≠ mB) (J Jx : List ShW → World → Prop) (W : World) (hW0 : Below w0.heap.size w0 W) (_hWB : B0 ≤ W.heap.size) (hJ : AbidesFrom W.heap.size J)
    (hY : ∀ pre x W1, J pre W1 → pre.length < 60 → YieldAt Fence.wide (n - 1) Tryz.prog l (encS x) W1 fun e W' =>
      (e = .returned (.bool true) ∧ J (pre ++ [x]) W' ∧ But B0 mB W1 W') ∨ (e = .returned (.bool false) ∧ Jx (pre ++ [x]) W'))
    (hbox : Blk W Bs (burCells X0 X1 day F facts.length cf m p q) 51) (h0 : J [] W) :
    CallsIn Fence.wide n Tryz.prog 44 #[.func (.yield l) #[] #[], .pointer (some ⟨Bs, 0, none⟩)] W fun e W' => (∃ v, e = .returned v) ∧
      ((∃ ys : List ShW, ys.map Subtype.val = shownS laws homes facts day facts ∧ J ys W') ∨ (∃ pre : List ShW, True ∧ Jx pre W')) := by
  have hLa2 := hLa
  unfold LastOk at hLa
  have HLa := Lib.hid hLa
  have hkc := hbox.cell
  clear hLa
  have hfL : Fence.wide.fn 18 := trivial
  refine callsIn_of_wp Tryz.func44 rfl trivial ?_ rfl
  simp only [Tryz.ntmps44, List.size_toArray, List.length_cons, List.length_nil, Nat.reduceAdd, Nat.reduceSub, Array.replicate_succ, Array.replicate_zero, List.push_toArray, List.append_toArray, List.nil_append, List.cons_append]
  gi_wp2
  clear hkc
  gi_loopw [10] (fun ii wr => ∃ i : Nat, i ≤ facts.length ∧ ii = .int .i64 i ∧ Hid ((∃ ps : List ShW, ps.map Subtype.val = shownS laws homes facts day (facts.take i) ∧ J ps wr) ∧ Below w0.heap.size w0 wr ∧ Blk wr Bs (burCells X0 X1 day F facts.length cf m p q) 51 ∧ W.heap.size ≤ wr.heap.size))
    (fun ii _ => facts.length - (vInt ii).toNat)
  case atStart => exact ⟨0, Nat.zero_le _, rfl, Lib.hid ⟨⟨[], rfl, h0⟩, hW0, hbox, Nat.le_refl _⟩⟩
  case round =>
    obtain ⟨i, hi, rfl, hR⟩ := hrel
    obtain ⟨⟨ps, hpe, hJs⟩, hB, hk, hsz⟩ := hR.out
    have hpl : ps.length ≤ facts.length := by
      have h1 := congrArg List.length hpe
      rw [List.length_map] at h1
      rw [h1]
      exact Nat.le_trans (List.length_filterMap_le _ _) (by rw [List.length_take]; omega)
    have hpl2 : i < facts.length → ps.length < 60 := fun hlt => by
      have h1 := congrArg List.length hpe
      rw [List.length_map] at h1
      rw [h1]
      exact Nat.lt_of_le_of_lt (List.length_filterMap_le _ _) (by rw [List.length_take]; omega)
    by_cases hlt : i < facts.length
    · have hil : (i : Int) < (facts.length : Int) := by omega
      have hM := hM0.below hB
      obtain ⟨b, off, rfl, hb, C⟩ := hM.reps.eight hlt
      have hsnoc : shownS laws homes facts day (facts.take (i + 1)) = _ := (congrArg _ (List.take_succ_eq_append_getElem hlt)).trans (shownS_snoc laws homes facts day _ _)
      have hmem : facts[i] ∈ facts := List.getElem_mem hlt
      have hlen := hpl2 hlt
      rw [← hpe] at hsnoc
      have hrw := hfw _ hmem
      obtain ⟨ps2, hp2⟩ : ∃ z, shownS laws homes facts day (facts.take (i + 1)) = z := ⟨_, rfl⟩
      rw [hp2] at hsnoc
      have Hp2 := Lib.hid hp2
      clear hp2
      obtain ⟨c0, c1, c2, c3, c4, c5, c6, c7⟩ := C
      have hb1 := (Below.refl wr.heap.size wr).alloc (Nat.le_refl _) (.cells #[.int .i64 facts[i].id, .int .i64 facts[i].src, .int .i64 facts[i].acc, .int .i64 facts[i].made, .int .i64 facts[i].about, .int .u8 facts[i].kind, .int .i64 facts[i].cents, .int .i64 facts[i].of_] 56)
      have kf := Blk.new wr #[.int .i64 facts[i].id, .int .i64 facts[i].src, .int .i64 facts[i].acc, .int .i64 facts[i].made, .int .i64 facts[i].about, .int .u8 facts[i].kind, .int .i64 facts[i].cents, .int .i64 facts[i].of_] 56
      have HL1 := Lib.hid ((callsIn_wide (n := n - 1)).2 (HLa.out X0 X1 (.int .i64 day) (.slice (some ⟨b, off, none⟩) facts.length cf) m k p q _ cf facts[i] _ (hM.below hb1) hmem))
      have hkc := hk.cell
      have k1c := (hk.alloc (.cells #[.int .i64 facts[i].id, .int .i64 facts[i].src, .int .i64 facts[i].acc, .int .i64 facts[i].made, .int .i64 facts[i].about, .int .u8 facts[i].kind, .int .i64 facts[i].cents, .int .i64 facts[i].of_] 56)).cell
      have k1 := hk.alloc (.cells #[.int .i64 facts[i].id, .int .i64 facts[i].src, .int .i64 facts[i].acc, .int .i64 facts[i].made, .int .i64 facts[i].about, .int .u8 facts[i].kind, .int .i64 facts[i].cents, .int .i64 facts[i].of_] 56)
      have kl := hk.lt
      have hO : Hid (shownO laws homes facts day facts[i] = match lastV laws homes facts facts[i] with
        | none => none
        | some n => if facts[i].about ≤ day ∧ day ≤ n then some (facts[i], n) else none) := Lib.hid rfl
      generalize shownO laws homes facts day facts[i] = so at *
      have HYi := Lib.hid (fun z W1 h => hY ps ⟨(facts[i], z), hrw⟩ W1 h hlen)
      have HJ2 : Hid (∀ W2, Below wr.heap.size wr W2 → J ps W2) := Lib.hid (fun W2 hb => hJ _ _ _ none hJs (grown_below hb) (fun r e => by cases e))
      have HB2 : Hid (∀ W2, Below wr.heap.size wr W2 → Below w0.heap.size w0 W2 ∧ Blk W2 Bs (burCells X0 X1 day (some ⟨b, off, none⟩) facts.length cf m p q) 51 ∧ W.heap.size ≤ W2.heap.size) := Lib.hid (fun W2 hb => ⟨hB.trans (hb.mono hB.size), hk.below hb hk.lt, Nat.le_trans hsz hb.size⟩)
      have Hb1 := Lib.hid hb1
      clear hR hJs hB hk hM hb1 hY hlen hmem hLa2 hM0 HLa k1
      cases hV : lastV laws homes facts facts[i] with
      | none =>
        rw [hV] at HL1 hO
        have hps : Hid (ps2 = ps.map Subtype.val) := Lib.hid (by rw [hsnoc, hO.out]; simp)
        generalize facts[i] = r at *
        clear hV hO hsnoc HYi
        gi_wp2_with (gi_at_call 18; refine (HL1.out).mono ?_; rintro e w2 ⟨rfl, hb2⟩)
        refine ⟨fun f hf => (by cases hf), ?_⟩
        gi_wp2
        have hb3 := Hb1.out.trans (hb2.mono Hb1.out.size)
        go_roundw
        case rel => exact ⟨i + 1, by omega, by go_num, Lib.hid ⟨⟨ps, by rw [Hp2.out, hps.out], HJ2.out _ hb3⟩, HB2.out _ hb3⟩⟩
        case measure => simp [vInt]; omega
      | some z =>
        rw [hV] at HL1 hO
        by_cases q1 : facts[i].about ≤ day
        · by_cases q2 : day ≤ z
          · have hps : Hid (ps2 = ps.map Subtype.val ++ [(facts[i], z)]) := Lib.hid (by rw [hsnoc, hO.out]; simp [q1, q2])
            generalize facts[i] = r at *
            clear hV hO hsnoc
            gi_wp2_with (gi_at_call 18; refine (HL1.out).mono ?_; rintro e w2 ⟨rfl, hb2⟩; have hb3 := Hb1.out.trans (hb2.mono Hb1.out.size); have kfc := (kf.below hb2 kf.lt).cell; have kbc := ((HB2.out _ hb3).2.1).cell; obtain ⟨fn, tmps, assign, body, hy, hRb⟩ := HYi.out z w2 (HJ2.out _ hb3); dsimp only [encS] at hy)
            refine hRb.mono ?_
            rintro e W3 (⟨rfl, hJ3, hK3⟩ | ⟨rfl, hJx3⟩)
            · gi_wp2
              go_roundw
              case rel =>
                obtain ⟨p1, p2, p3⟩ := HB2.out _ hb3
                exact ⟨i + 1, by omega, by go_num, Lib.hid ⟨⟨_, by rw [Hp2.out, hps.out, List.map_append]; rfl, hJ3⟩, p1.trans (hK3.below h2 h1), hK3.blk p2 h3 h4, Nat.le_trans p3 hK3.size⟩⟩
              case measure => simp [vInt]; omega
            · gi_wp2
              refine bodyPost_ret (results_none rfl _ _ _) rfl ?_
              exact ⟨⟨_, rfl⟩, .inr ⟨_, trivial, hJx3⟩⟩
          · have hps : Hid (ps2 = ps.map Subtype.val) := Lib.hid (by rw [hsnoc, hO.out]; simp [q2])
            generalize facts[i] = r at *
            clear hV hO hsnoc HYi
            gi_wp2_with (gi_at_call 18; refine (HL1.out).mono ?_; rintro e w2 ⟨rfl, hb2⟩; have hb3 := Hb1.out.trans (hb2.mono Hb1.out.size); have kfc := (kf.below hb2 kf.lt).cell; have kbc := ((HB2.out _ hb3).2.1).cell)
            refine ⟨fun f hf => (by cases hf), ?_⟩
            gi_wp2
            go_roundw
            case rel => exact ⟨i + 1, by omega, by go_num, Lib.hid ⟨⟨ps, by rw [Hp2.out, hps.out], HJ2.out _ hb3⟩, HB2.out _ hb3⟩⟩
            case measure => simp [vInt]; omega
        · have hps : Hid (ps2 = ps.map Subtype.val) := Lib.hid (by rw [hsnoc, hO.out]; simp [q1])
          generalize facts[i] = r at *
          clear hV hO hsnoc HYi
          gi_wp2_with (gi_at_call 18; refine (HL1.out).mono ?_; rintro e w2 ⟨rfl, hb2⟩; have hb3 := Hb1.out.trans (hb2.mono Hb1.out.size); have kfc := (kf.below hb2 kf.lt).cell; have kbc := ((HB2.out _ hb3).2.1).cell)
          refine ⟨fun f hf => (by cases hf), ?_⟩
          gi_wp2
          go_roundw
          case rel => exact ⟨i + 1, by omega, by go_num, Lib.hid ⟨⟨ps, by rw [Hp2.out, hps.out], HJ2.out _ hb3⟩, HB2.out _ hb3⟩⟩
          case measure => simp [vInt]; omega
    · have hil : ¬ (i : Int) < (facts.length : Int) := by omega
      have hall : facts.take i = facts := List.take_of_length_le (by omega)
      rw [hall] at hpe
      gi_wp2
      go_end0
      exact ⟨⟨_, rfl⟩, .inl ⟨ps, hpe, hJs⟩⟩
end Go.Proofs.YtkpaikampmeooaaGreatDoor
