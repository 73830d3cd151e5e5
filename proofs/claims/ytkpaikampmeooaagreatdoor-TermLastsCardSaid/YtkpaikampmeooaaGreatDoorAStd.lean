/- The facts that stand, by the reference: each put in its place among those before. -/
import Derived.Test.YtkpaikampmeooaaGreatDoorTCardP3
import Derived.Test.YtkpaikampmeooaaGreatDoorACor
import Derived.StillTailTactics

namespace Go.Proofs.YtkpaikampmeooaaGreatDoor
open Go.RowKit Go.Maps

/-- The facts among the first i, as they stand. -/
def stood (l : List Rep) (i : Nat) : List Rep := ((l.take i).filter (factB l)).map (standOf l)
theorem stood_end (l : List Rep) : stood l l.length = standS l := by unfold stood standS; rw [List.take_length]
theorem stood_next {l : List Rep} {i : Nat} (hi : i < l.length) : stood l (i + 1) = stood l i ++ if factB l l[i] = true then [standOf l l[i]] else [] := by
  unfold stood
  rw [List.take_succ_eq_append_getElem hi, List.filter_append, List.map_append]
  congr 1
  by_cases h : factB l l[i] = true
  · rw [if_pos h, List.filter_cons_of_pos h]; rfl
  · rw [if_neg h, List.filter_cons_of_neg h]; rfl
theorem stood_le (l : List Rep) (i : Nat) : (stood l i).length ≤ i := by
  unfold stood
  rw [List.length_map]
  have := List.length_filter_le (factB l) (l.take i)
  rw [List.length_take] at this
  omega
structure SW (w W : World) (A1 : Option Addr) (c1 : Nat) (n : Nat) (tl ml : List Rep) : Prop where
  len : ml.length = n
  perm : ml.Perm tl
  own : W.ownsRow w.heap.size 56 8 (.slice A1 n c1) n (ml.flatMap repCells)
  bel : Below w.heap.size w W
theorem sw_drew {w W : World} {A1 : Option Addr} {c1 n : Nat} {tl ml : List Rep} (h : SW w W A1 c1 n tl ml) : SW w W.drew A1 c1 n tl ml := ⟨h.len, h.perm, own_below h.own (Below.refl _ _).drew, h.bel.drew⟩
theorem sw_below {w W W' : World} {A1 : Option Addr} {c1 n : Nat} {tl ml : List Rep} (h : SW w W A1 c1 n tl ml) (hb : Below W.heap.size W W') : SW w W' A1 c1 n tl ml := ⟨h.len, h.perm, own_below h.own hb, h.bel.trans (hb.mono h.bel.size)⟩
theorem sw_far {w W : World} {A1 : Option Addr} {c1 n : Nat} {tl ml : List Rep} (h : SW w W A1 c1 n tl ml) {p : Addr} (hp : ∀ g, (Value.slice A1 n c1).ownBlock = some g → g < p.block) (hw : w.heap.size ≤ p.block) (v : Value) : SW w (W.setCell p v) A1 c1 n tl ml := by
  refine ⟨h.len, h.perm, ⟨h.own.1, ?_⟩, h.bel.setCell hw v⟩
  rcases h.own.2 with h0 | ⟨g, cap, cur, h1, h2, h3, h4⟩
  · exact .inl h0
  · have := hp g (by rw [h1]; rfl)
    exact .inr ⟨g, cap, cur, h1, h2, (Below.heap_setCell _ _ _ _ (by omega)).trans h3, h4⟩
/-- Behind an exchange. -/
theorem sw_next {tl ml : List Rep} {w V : World} {g c1 m i n : Nat} {x0 x1 : Rep} (hn : ml.length = n) (hp : ml.Perm tl) (ownV : V.ownsRow w.heap.size 56 8 (.slice (some ⟨g, 0, none⟩) n c1) n (ml.flatMap repCells)) (belV : Below w.heap.size w V)
    (hm : m + 1 < ml.length) (hi : i < ml.length) (h0 : ml[m] = x0) (h1 : ml[m + 1] = x1) (hlt : keyR x1 < keyR x0) (hI : InsInv (keyAt ml) i (m + 1)) :
    ∃ ml', SW w ((((((((((((((((V.setCell ⟨g, (m + 1) * 8, none⟩ (.int .i64 x0.id)).setCell ⟨g, (m + 1) * 8 + 1, none⟩ (.int .i64 x0.src)).setCell ⟨g, (m + 1) * 8 + 2, none⟩ (.int .i64 x0.acc)).setCell ⟨g, (m + 1) * 8 + 3, none⟩ (.int .i64 x0.made)).setCell ⟨g, (m + 1) * 8 + 4, none⟩ (.int .i64 x0.about)).setCell ⟨g, (m + 1) * 8 + 5, none⟩ (.int .u8 x0.kind)).setCell ⟨g, (m + 1) * 8 + 6, none⟩ (.int .i64 x0.cents)).setCell ⟨g, (m + 1) * 8 + 7, none⟩ (.int .i64 x0.of_)).setCell ⟨g, m * 8, none⟩ (.int .i64 x1.id)).setCell ⟨g, m * 8 + 1, none⟩ (.int .i64 x1.src)).setCell ⟨g, m * 8 + 2, none⟩ (.int .i64 x1.acc)).setCell ⟨g, m * 8 + 3, none⟩ (.int .i64 x1.made)).setCell ⟨g, m * 8 + 4, none⟩ (.int .i64 x1.about)).setCell ⟨g, m * 8 + 5, none⟩ (.int .u8 x1.kind)).setCell ⟨g, m * 8 + 6, none⟩ (.int .i64 x1.cents)).setCell ⟨g, m * 8 + 7, none⟩ (.int .i64 x1.of_)) (some ⟨g, 0, none⟩) c1 n tl ml' ∧ InsInv (keyAt ml') i m := by
  have hgb : w.heap.size ≤ g := (ownV.lt g rfl).1
  subst h0 h1
  refine ⟨swapL ml (m + 1) (ml[m]'(by omega)) ml[m + 1], ⟨by rw [swapL_len]; exact hn, (swapL_perm ml (m + 1) (by omega) hm).trans hp, ?_, ((((((((((((((((belV.setCell (by show w.heap.size ≤ g; omega) _).setCell (by show w.heap.size ≤ g; omega) _).setCell (by show w.heap.size ≤ g; omega) _).setCell (by show w.heap.size ≤ g; omega) _).setCell (by show w.heap.size ≤ g; omega) _).setCell (by show w.heap.size ≤ g; omega) _).setCell (by show w.heap.size ≤ g; omega) _).setCell (by show w.heap.size ≤ g; omega) _).setCell (by show w.heap.size ≤ g; omega) _).setCell (by show w.heap.size ≤ g; omega) _).setCell (by show w.heap.size ≤ g; omega) _).setCell (by show w.heap.size ≤ g; omega) _).setCell (by show w.heap.size ≤ g; omega) _).setCell (by show w.heap.size ≤ g; omega) _).setCell (by show w.heap.size ≤ g; omega) _).setCell (by show w.heap.size ≤ g; omega) _)⟩, ?_⟩
  · have o := ((((((((((((((((ownV.stored ((m + 1) * 8) (.int .i64 ml[m].id)).1.stored ((m + 1) * 8 + 1) (.int .i64 ml[m].src)).1.stored ((m + 1) * 8 + 2) (.int .i64 ml[m].acc)).1.stored ((m + 1) * 8 + 3) (.int .i64 ml[m].made)).1.stored ((m + 1) * 8 + 4) (.int .i64 ml[m].about)).1.stored ((m + 1) * 8 + 5) (.int .u8 ml[m].kind)).1.stored ((m + 1) * 8 + 6) (.int .i64 ml[m].cents)).1.stored ((m + 1) * 8 + 7) (.int .i64 ml[m].of_)).1.stored (m * 8) (.int .i64 ml[m + 1].id)).1.stored (m * 8 + 1) (.int .i64 ml[m + 1].src)).1.stored (m * 8 + 2) (.int .i64 ml[m + 1].acc)).1.stored (m * 8 + 3) (.int .i64 ml[m + 1].made)).1.stored (m * 8 + 4) (.int .i64 ml[m + 1].about)).1.stored (m * 8 + 5) (.int .u8 ml[m + 1].kind)).1.stored (m * 8 + 6) (.int .i64 ml[m + 1].cents)).1.stored (m * 8 + 7) (.int .i64 ml[m + 1].of_)).1
    have e1 := repCells_set ml (m + 1) hm (ml[m]'(by omega))
    have e2 := repCells_set (ml.set (m + 1) (ml[m]'(by omega))) m (by simp; omega) ml[m + 1]
    rw [← e1] at o
    rw [← e2] at o
    exact o
  · have h2 := ins_step (f := keyAt ml) (i := i) (k := m + 1) (by omega) (by rw [Nat.add_sub_cancel, keyAt_get ml m (by omega), keyAt_get ml (m + 1) hm]; exact hlt) hI
    rw [Nat.add_sub_cancel] at h2
    refine h2.congr fun a ha => ?_
    have hg := swapL_get ml (m + 1) (by omega) hm a (by omega)
    simp only [Nat.add_sub_cancel] at hg
    unfold swp
    simp only [Nat.add_sub_cancel]
    rw [keyAt_get (swapL ml (m + 1) (ml[m]'(by omega)) ml[m + 1]) a (by rw [swapL_len]; omega), hg, keyAt_get ml m (by omega), keyAt_get ml (m + 1) hm, keyAt_get ml a (by omega)]
    split
    · rfl
    · split <;> rfl
theorem Reps.drew {w : World} {B : Nat} {A : Option Addr} {l : List Rep} (h : Reps w B A l) : Reps w.drew B A l := h
theorem at3_still (l : List Rep) (A : Option Addr) (c : Nat) (r : Rep) (w : World) (h : Reps w w.heap.size A l) (hl : l.length ≤ maxLen) {k : Nat} (hx : ixR l r.id = k) :
    Calls Tryz.prog 22 #[.slice A l.length c, .int .i64 r.id] w fun e w' => e = .returned (.int .i64 k) ∧ w' = w :=
  (at3_any l A c r.id w h hl).mono fun _ _ ⟨a, b⟩ => ⟨hx ▸ a, b.symm⟩
/-- All that is asked of what is known. -/
structure KnOk (l : List Rep) : Prop where
  len : l.length ≤ 1000
  nodup : (l.map Rep.id).Nodup
  id : ∀ r ∈ l, 0 ≤ r.id ∧ r.id ≤ 999999
  kind : ∀ r ∈ l, 1 ≤ r.kind ∧ r.kind ≤ 9
theorem standOf_key {l : List Rep} (h : KnOk l) {i : Nat} : ∀ r ∈ stood l i, 0 ≤ r.id ∧ r.id ≤ 999999 := fun r hr => by
  unfold stood at hr
  obtain ⟨s, hs, rfl⟩ := List.mem_map.1 hr
  rw [standOf_id]
  exact h.id s (List.mem_of_mem_take (List.mem_filter.1 hs).1)

set_option maxRecDepth 100000 in
set_option maxHeartbeats 4000000 in
theorem standing3_any (l : List Rep) (A : Option Addr) (c : Nat) (w : World) (h : Reps w w.heap.size A l) (hK : KnOk l) :
    Calls Tryz.prog 40 #[.slice A l.length c] w fun e w' => ∃ v, e = .returned v ∧ w'.ownsRow w.heap.size 56 8 v (standL l).length ((standL l).flatMap repCells) ∧ Below w.heap.size w w' := by
  obtain ⟨i0, hi0, hz0, hz1, hz2⟩ := info_parts repInfo
  have hl : l.length ≤ 1000 := hK.len
  have HK := Lib.hid hK
  clear hK
  have HWd := Lib.hid (fun r W (hr : r ∈ l) hh => withdrawn3_any l A c r.id W hh (by unfold maxLen; omega) (by rw [atR_mem HK.out.nodup hr]; simp))
  have HCo := Lib.hid (fun r W (hr : r ∈ l) hh => corrected3_any l A c r.id W hh (by unfold maxLen; omega) HK.out.nodup (fun q hq => (HK.out.id q hq).1) (by rw [atR_mem HK.out.nodup hr]; simp))
  go_enter Tryz.func40, Tryz.ntmps40
  go_wp2_with fail
  go_loopw [3, 4] (fun vv ii wr => ∃ (i n : Nat) (A2 : Option Addr) (c2 : Nat), i ≤ l.length ∧ vv = .slice A2 n c2 ∧ ii = .int .i64 i ∧ n ≤ i ∧ Hid (∃ ml, SW w wr A2 c2 n (stood l i) ml ∧ ∀ a b, a < b → b < n → keyAt ml a ≤ keyAt ml b)) (fun _ ii _ => l.length - (vInt ii).toNat)
  case atStart => exact ⟨0, 0, none, 0, Nat.zero_le _, rfl, rfl, Nat.le_refl _, Lib.hid ⟨[], ⟨rfl, List.Perm.refl _, World.ownsRow_nil _ _ _ _, Below.refl _ _⟩, fun a b h1 h2 => by omega⟩⟩
  case round =>
    obtain ⟨i, n, A2, c2, hi, rfl, rfl, hni, hR⟩ := hrel
    by_cases hlt : i < l.length
    · have hil : (i : Int) < (l.length : Int) := by omega
      obtain ⟨ml, hS, hO⟩ := hR.out
      have hB := hS.bel
      have hw := h.later hB
      obtain ⟨b, off, rfl, hb, C⟩ := hw.eight hlt
      have hri : l[i] ∈ l := List.getElem_mem hlt
      have HT := Lib.hid (stood_next hlt)
      generalize l[i] = r at *
      obtain ⟨c0, c1, c2', c3, c4, c5, c6, c7⟩ := C
      have hB1 := hB.alloc hB.size (.cells #[.int .i64 r.id, .int .i64 r.src, .int .i64 r.acc, .int .i64 r.made, .int .i64 r.about, .int .u8 r.kind, .int .i64 r.cents, .int .i64 r.of_] 56)
      by_cases h7 : r.kind ≤ 7
      · have e7 : decide (7 < r.kind) = false := decide_eq_false (by omega)
        have hww := HWd.out r _ hri (h.later hB1)
        have HW := Lib.hid hww
        by_cases hwd : 0 ≤ wdV l r.id
        · have ewd : decide (0 ≤ wdV l r.id) = true := decide_eq_true hwd
          have Hst : Hid (stood l (i + 1) = stood l i) := Lib.hid (by rw [HT.out, if_neg (by unfold factB; simp; omega), List.append_nil])
          have HS := Lib.hid hS
          have HO := Lib.hid hO
          clear hR hS hO hww hwd h7 HWd HCo
          go_wp2_with (go_at_call 63; (with_reducible refine (HW.out).mono ?_); rintro e w2 ⟨rfl, h2⟩)
          have hfin := sw_below HS.out (((Below.refl wr.heap.size wr).alloc (Nat.le_refl _) _).trans (h2.mono (by simp)))
          go_roundw
          case rel => exact ⟨i + 1, n, A2, c2, by omega, rfl, by go_num, by omega, Lib.hid ⟨ml, by rw [Hst.out]; exact hfin, HO.out⟩⟩
          case measure => simp [vInt]; omega
        · have ewd : decide (0 ≤ wdV l r.id) = false := decide_eq_false hwd
          have hfact : factB l r = true := by unfold factB; simp [h7]; omega
          have HS := Lib.hid hS
          have HSw := Lib.hid hS
          have HO := Lib.hid hO
          have kr := Blk.new wr #[.int .i64 r.id, .int .i64 r.src, .int .i64 r.acc, .int .i64 r.made, .int .i64 r.about, .int .u8 r.kind, .int .i64 r.cents, .int .i64 r.of_] 56
          have hBz := hB.size
          obtain ⟨z, hz⟩ : ∃ z, ((corV l r.id).map Rep.id).getD (-1) = z := ⟨_, rfl⟩
          have HCr := Lib.hid (fun W hh => hz ▸ HCo.out r W hri hh)
          have Hz := Lib.hid hz
          clear hz
          clear hR hS hO hww hwd h7
          go_upto_if 33 with (first
            | (go_at_call 63; (with_reducible refine (HW.out).mono ?_); rintro e w2 ⟨rfl, h2⟩; have c0x := (h2.cell (p := ⟨wr.heap.size, 0, none⟩) (by simp)).trans (kr.cell 0); have h2b := hB1.trans (h2.mono hB1.size); have HC := Lib.hid (HCr.out w2 (h.later h2b)))
            | (go_at_call 64; (with_reducible refine (HC.out).mono ?_); rintro e w3 ⟨rfl, h3⟩))
          obtain ⟨s, hs⟩ : ∃ s, standOf l r = s := ⟨_, rfl⟩
          have Hs := Lib.hid hs
          clear hs
          have hb3 := h2b.trans (h3.mono h2b.size)
          have kr3 := (kr.below h2 kr.lt).below h3 (by have := h2.size; have := kr.lt; omega)
          have hS3 := sw_below HS.out (((Below.refl wr.heap.size wr).alloc (Nat.le_refl _) _).trans ((h2.trans (h3.mono h2.size)).mono (by simp)))
          have hl3 := h.later hb3
          have HS3 := Lib.hid hS3
          have hwlt : wr.heap.size < w3.heap.size := kr3.lt
          clear hS3 HS kr c0x HC HCr HW h2b h2 h3 hB1 c0 c1 c2' c3 c4 c5 c6 c7 hw hB HWd HCo
          have HkA := Lib.hid (fun g (hg : (Value.slice A2 n c2).ownBlock = some g) => (HSw.out.own.lt g hg).2)
          clear HSw
          generalize hkb : wr.heap.size = kb at *
          clear hkb wr w2
          generalize w3 = V at *
          have hkw : w.heap.size ≤ kb := hBz
          have hkA : ∀ g, (Value.slice A2 n c2).ownBlock = some g → g < kb := HkA.out
          have HkA2 := Lib.hid hkA
          clear hkA HkA
          clear hBz
          go_cut [] (fun wx => SW w wx A2 c2 n (stood l i) ml ∧ Blk wx kb #[.int .i64 s.id, .int .i64 s.src, .int .i64 s.acc, .int .i64 s.made, .int .i64 s.about, .int .u8 s.kind, .int .i64 s.cents, .int .i64 s.of_] 56)
          case first =>
            cases hc : corV l r.id with
            | none =>
              obtain rfl : r = s := by rw [← Hs.out]; unfold standOf; rw [hc]
              have hz : z = -1 := by rw [← Hz.out, hc]; rfl
              have e0 : ¬ (0 : Int) ≤ z := by omega
              clear hc hz
              go_wp2_with fail
              go_meet
              exact ⟨HS3.out, kr3⟩
            | some m =>
              obtain ⟨hm, hmb⟩ := corV_some hc
              have hm0 := (HK.out.id m hm).1
              obtain rfl : m.id = z := by rw [← Hz.out, hc]; rfl
              obtain ⟨k, hk, hx, hat⟩ : ∃ k, ∃ h : k < l.length, ixR l m.id = k ∧ atR l m.id = some l[k] := by
                rcases ixR_cases l m.id with ⟨_, e⟩ | e
                · rw [atR_mem HK.out.nodup hm] at e; cases e
                · exact e
              have hmk : l[k] = m := by rw [atR_mem HK.out.nodup hm] at hat; exact (Option.some.inj hat).symm
              have hkl : (k : Int) < (l.length : Int) := by omega
              obtain ⟨b', off', e', hb', C'⟩ := hl3.drew.eight hk
              cases e'
              rw [hmk] at C'
              obtain rfl : { r with about := m.about, cents := m.cents } = s := by rw [← Hs.out]; unfold standOf; rw [hc]
              have HA3 := Lib.hid (at3_still l (some ⟨b, off, none⟩) c m V.drew hl3.drew (by unfold maxLen; omega) hx)
              have e0 : decide ((0 : Int) ≤ m.id) = true := decide_eq_true hm0
              have d4 := C'.c4
              have d6 := C'.c6
              have d6' : (V.setCell ⟨kb, 4, none⟩ (.int .i64 m.about)).cell? ⟨b, off + k * 8 + 6, none⟩ = some (.int .i64 m.cents) := (World.cell?_of_block (Below.heap_setCell _ _ _ _ (by show b ≠ kb; omega))).trans C'.c6
              have krc := kr3.cell
              have krf := kr3.free
              have krc2 := (kr3.set 4 (.int .i64 m.about)).cell
              have krf2 := (kr3.set 4 (.int .i64 m.about)).free
              clear hc hmk hat hx hmb C'
              go_upto_region 9 with fail
              go_region_with (go_at_call 22; (with_reducible refine (HA3.out).mono ?_); rintro e w1 ⟨rfl, rfl⟩)
              all_goals (go_wp2_with fail; go_meet)
              all_goals exact ⟨sw_drew (sw_far (sw_far HS3.out HkA2.out hkw _) HkA2.out hkw _), ((kr3.set 4 (.int .i64 m.about)).set 6 (.int .i64 m.cents)).drew⟩
          case rest =>
            obtain ⟨hS, kr⟩ := hcut
            clear HS3 kr3 hl3 HkA2
            generalize wc = U at *
            clear hb3 hwlt
            clear V
            have HU := Lib.hid hS
            have hUz := hS.bel.size
            have HO2 := Lib.hid hS.own
            have hn1 := hS.len
            have krc := kr.cell
            clear hS
            go_upto_region 11 with (at_builtin; refine wpList_append_own_at _ rfl _ _ 27 rfl w.heap.size 56 i0 _ 8 64 Tryz.underlying27 hi0 hz0 hz1 hz2 rfl (by decide) _ _ _ rfl (HO2.out.alloc _) ⟨U.heap.size, 0, none⟩ 1 1 (repCells s) rfl rfl (cells_new8 _ _) (repCells_one _) (by unfold maxLen; omega) (by omega) (by simp; omega) ?_; intro v' w3 hown3 hg3 _ hat3)
            obtain ⟨A3, c3, rfl⟩ := own_slice hown3
            obtain ⟨g, cap, hv, hgb, _⟩ := hown3.form (by omega)
            simp only [Value.slice.injEq, true_and] at hv
            obtain ⟨rfl, rfl⟩ := hv
            have hB3 := (HU.out.bel.alloc hUz (.cells #[.int .i64 s.id, .int .i64 s.src, .int .i64 s.acc, .int .i64 s.made, .int .i64 s.about, .int .u8 s.kind, .int .i64 s.cents, .int .i64 s.of_] 56)).grown hg3 (by simp; omega) (fun k e => (HU.out.own.lt k e).1)
            have HI : Hid (∃ ml', SW w w3 (some ⟨g, 0, none⟩) c3 (n + 1) (stood l i ++ [s]) ml' ∧ InsInv (keyAt ml') n n) := Lib.hid ⟨ml ++ [s], ⟨by rw [List.length_append, HU.out.len]; rfl, HU.out.perm.append_right _, by rw [repCells_snoc]; exact hown3, hB3⟩, ins_start fun a b h1 h2 => by
              have q := HO.out a b h1 h2
              rw [keyAt_get ml a (by omega), keyAt_get ml b (by omega)] at q
              rw [keyAt_get (ml ++ [s]) a (by simp; omega), keyAt_get (ml ++ [s]) b (by simp; omega), List.getElem_append_left (by omega), List.getElem_append_left (by omega)]
              exact q⟩
            have Hkey : Hid (∀ q ∈ stood l i ++ [s], 0 ≤ q.id ∧ q.id ≤ 999999) := Lib.hid (fun q hq => by
              rcases List.mem_append.1 hq with hq | hq
              · exact standOf_key HK.out q hq
              · simp only [List.mem_cons, List.not_mem_nil, or_false] at hq
                rw [hq, ← Hs.out, standOf_id]; exact HK.out.id r hri)
            have Hst : Hid (stood l (i + 1) = stood l i ++ [s]) := Lib.hid (by rw [HT.out, if_pos hfact, Hs.out])
            have Hni := Lib.hid hni
            clear hown3 hg3 hat3 hB3 HU HO2 hn1 krc kr HO Hs HT hfact hUz hgb hri
            generalize stood l i ++ [s] = tl at *
            obtain ⟨wo, rfl⟩ : ∃ wo : World, wo = w3 := ⟨_, rfl⟩
            go_wp2_with fail
            go_loopw [7] (fun kk wr => ∃ (k : Nat) (z : Int), k ≤ n ∧ z = k ∧ kk = .int .i64 z ∧ Hid (∃ ml, SW w wr (some ⟨g, 0, none⟩) c3 (n + 1) tl ml ∧ InsInv (keyAt ml) n k)) (fun kk _ => (vInt kk).toNat)
            case atStart => exact ⟨n, n, Nat.le_refl _, rfl, by go_num, HI⟩
            case round =>
              obtain ⟨k, z, hk, hzk, rfl, hT2⟩ := hrel
              clear HI
              rcases Nat.eq_zero_or_pos k with rfl | hkp
              · have HE : Hid (∃ ml, SW w wr (some ⟨g, 0, none⟩) c3 (n + 1) tl ml ∧ ∀ a b, a < b → b < n + 1 → keyAt ml a ≤ keyAt ml b) := by
                  obtain ⟨ml, h1, h2⟩ := hT2.out
                  exact Lib.hid ⟨ml, h1, fun a b x y => ins_end h2 (.inl rfl) a b x y⟩
                obtain rfl : z = 0 := by simpa using hzk
                have hd : decide ((0 : Int) < 0) = false := by decide
                clear hzk hT2
                go_wp2_with fail
                go_quiet (fail)
                go_wp2_with fail
                go_roundw
                case rel =>
                  obtain ⟨ml2, o1, o2⟩ := HE.out
                  exact ⟨i + 1, n + 1, some ⟨g, 0, none⟩, c3, by omega, rfl, by go_num, by have := Hni.out; omega, Lib.hid ⟨ml2, by rw [Hst.out]; exact sw_below o1 (below_drewN (Below.refl _ _) _), o2⟩⟩
                case measure => simp [vInt]; omega
              · obtain ⟨m, rfl⟩ : ∃ m, k = m + 1 := ⟨k - 1, by omega⟩
                obtain rfl : z = (m : Int) + 1 := by omega
                clear hzk
                obtain ⟨ml, hO, hI⟩ := hT2.out
                have hml : ml.length = n + 1 := hO.len
                have hlen8 := repCells_len ml
                have hown := hO.own
                have hglt : g < wr.heap.size := (hown.lt g rfl).2
                have G1 := repCells_get ml (m + 1) (by omega)
                have G0 := repCells_get ml m (by omega)
                have hy1 : keyR ml[m + 1] < keyR (ml[m]'(by omega)) ↔ beforeB ml[m + 1] (ml[m]'(by omega)) = true := keyR_iff (Hkey.out _ (hO.perm.mem_iff.1 (List.getElem_mem _))) (Hkey.out _ (hO.perm.mem_iff.1 (List.getElem_mem _)))
                generalize hx1 : ml[m + 1] = x1 at G1 hy1
                generalize hx0 : ml[m] = x0 at G0 hy1
                have a0 : wr.cell? ⟨g, (m + 1) * 8, none⟩ = some (.int .i64 x1.id) := (hown.cellAt ((m + 1) * 8) (by omega)).trans (G1 0 (by omega))
                have a1 : wr.cell? ⟨g, (m + 1) * 8 + 1, none⟩ = some (.int .i64 x1.src) := (hown.cellAt ((m + 1) * 8 + 1) (by omega)).trans (G1 1 (by omega))
                have a2 : wr.cell? ⟨g, (m + 1) * 8 + 2, none⟩ = some (.int .i64 x1.acc) := (hown.cellAt ((m + 1) * 8 + 2) (by omega)).trans (G1 2 (by omega))
                have a3 : wr.cell? ⟨g, (m + 1) * 8 + 3, none⟩ = some (.int .i64 x1.made) := (hown.cellAt ((m + 1) * 8 + 3) (by omega)).trans (G1 3 (by omega))
                have a4 : wr.cell? ⟨g, (m + 1) * 8 + 4, none⟩ = some (.int .i64 x1.about) := (hown.cellAt ((m + 1) * 8 + 4) (by omega)).trans (G1 4 (by omega))
                have a5 : wr.cell? ⟨g, (m + 1) * 8 + 5, none⟩ = some (.int .u8 x1.kind) := (hown.cellAt ((m + 1) * 8 + 5) (by omega)).trans (G1 5 (by omega))
                have a6 : wr.cell? ⟨g, (m + 1) * 8 + 6, none⟩ = some (.int .i64 x1.cents) := (hown.cellAt ((m + 1) * 8 + 6) (by omega)).trans (G1 6 (by omega))
                have a7 : wr.cell? ⟨g, (m + 1) * 8 + 7, none⟩ = some (.int .i64 x1.of_) := (hown.cellAt ((m + 1) * 8 + 7) (by omega)).trans (G1 7 (by omega))
                have b0 : wr.cell? ⟨g, m * 8, none⟩ = some (.int .i64 x0.id) := (hown.cellAt (m * 8) (by omega)).trans (G0 0 (by omega))
                have b1 : wr.cell? ⟨g, m * 8 + 1, none⟩ = some (.int .i64 x0.src) := (hown.cellAt (m * 8 + 1) (by omega)).trans (G0 1 (by omega))
                have b2 : wr.cell? ⟨g, m * 8 + 2, none⟩ = some (.int .i64 x0.acc) := (hown.cellAt (m * 8 + 2) (by omega)).trans (G0 2 (by omega))
                have b3 : wr.cell? ⟨g, m * 8 + 3, none⟩ = some (.int .i64 x0.made) := (hown.cellAt (m * 8 + 3) (by omega)).trans (G0 3 (by omega))
                have b4 : wr.cell? ⟨g, m * 8 + 4, none⟩ = some (.int .i64 x0.about) := (hown.cellAt (m * 8 + 4) (by omega)).trans (G0 4 (by omega))
                have b5 : wr.cell? ⟨g, m * 8 + 5, none⟩ = some (.int .u8 x0.kind) := (hown.cellAt (m * 8 + 5) (by omega)).trans (G0 5 (by omega))
                have b6 : wr.cell? ⟨g, m * 8 + 6, none⟩ = some (.int .i64 x0.cents) := (hown.cellAt (m * 8 + 6) (by omega)).trans (G0 6 (by omega))
                have b7 : wr.cell? ⟨g, m * 8 + 7, none⟩ = some (.int .i64 x0.of_) := (hown.cellAt (m * 8 + 7) (by omega)).trans (G0 7 (by omega))
                have za0 := After.cell (B := wr.heap.size) a0 hglt
                have za1 := After.cell (B := wr.heap.size) a1 hglt
                have za2 := After.cell (B := wr.heap.size) a2 hglt
                have za3 := After.cell (B := wr.heap.size) a3 hglt
                have za4 := After.cell (B := wr.heap.size) a4 hglt
                have za5 := After.cell (B := wr.heap.size) a5 hglt
                have za6 := After.cell (B := wr.heap.size) a6 hglt
                have za7 := After.cell (B := wr.heap.size) a7 hglt
                have zb0 := After.cell (B := wr.heap.size) b0 hglt
                have zb1 := After.cell (B := wr.heap.size) b1 hglt
                have zb2 := After.cell (B := wr.heap.size) b2 hglt
                have zb3 := After.cell (B := wr.heap.size) b3 hglt
                have zb4 := After.cell (B := wr.heap.size) b4 hglt
                have zb5 := After.cell (B := wr.heap.size) b5 hglt
                have zb6 := After.cell (B := wr.heap.size) b6 hglt
                have zb7 := After.cell (B := wr.heap.size) b7 hglt
                have Hx1 := Lib.hid hx1
                have Hx0 := Lib.hid hx0
                have HO := Lib.hid hO
                have HG1 := Lib.hid G1
                have HG0 := Lib.hid G0
                have HI := Lib.hid hI
                have Hml := Lib.hid hml
                clear hx1 hx0 hO hI hlen8 hown G1 G0 hT2 a0 a1 a2 a3 a4 a5 a6 a7 b0 b1 b2 b3 b4 b5 b6 b7
                have hm1 : (m : Int) + 1 < (n + 1 : Nat) := by omega
                have hm0 : (m : Int) < (n + 1 : Nat) := by omega
                have e1 : ((m : Int) + 1).toNat = m + 1 := by omega
                have e2 : IntKind.i64.wrap ((m : Int) + 1 - 1) = (m : Int) := by rw [show (m : Int) + 1 - 1 = m by omega]; exact IntWalk.i64_in _ (by omega)
                have e3 : ((m : Int) + 1 - 1) = (m : Int) := by omega
                have hg0 : decide ((0 : Int) < (m : Int) + 1) = true := decide_eq_true (by omega)
                have e4 : (0 : Int) < (m : Int) + 1 := by omega
                have e5 : (m : Int) + 1 < (n : Int) + 1 := by omega
                have e6 : (m : Int) < (n : Int) + 1 := by omega
                cases hq : beforeB x1 x0 with
                | false =>
                  have HE : Hid (∃ ml, SW w wr (some ⟨g, 0, none⟩) c3 (n + 1) tl ml ∧ ∀ a b, a < b → b < n + 1 → keyAt ml a ≤ keyAt ml b) :=
                    Lib.hid ⟨ml, HO.out, fun a b x y => ins_end HI.out (.inr (by
                      rw [Nat.add_sub_cancel, keyAt_get ml m (by omega), keyAt_get ml (m + 1) (by omega), Hx0.out, Hx1.out]
                      rcases Int.lt_or_le (keyR x1) (keyR x0) with q | q
                      · rw [hy1.1 q] at hq; cases hq
                      · exact q)) a b x y⟩
                  have GB : Hid (∀ x : After wr.heap.size wr, Calls Tryz.prog 65 #[.agg #[.int .i64 x1.id, .int .i64 x1.src, .int .i64 x1.acc, .int .i64 x1.made, .int .i64 x1.about, .int .u8 x1.kind, .int .i64 x1.cents, .int .i64 x1.of_], .agg #[.int .i64 x0.id, .int .i64 x0.src, .int .i64 x0.acc, .int .i64 x0.made, .int .i64 x0.about, .int .u8 x0.kind, .int .i64 x0.cents, .int .i64 x0.of_]] x.val fun e w' => e = .returned (.bool false) ∧ Below x.val.heap.size x.val w') := Lib.hid (fun x => hq ▸ before3_any x1 x0 x.val)
                  clear hq hy1
                  go_upto_region 12 with fail
                  refine wp_region_class_lit (C := fun w' => ∃ z : After wr.heap.size wr, w' = z.val) (by kernel_rfl) (by kernel_rfl) ⟨⟨_, (Below.refl _ _).drew⟩, rfl⟩ ?_
                  repeat (go_big_quiet_step ((go_at_call 65; with_reducible exact after_of (Nat.le_refl _) _ (GB.out _))))
                  refine wpQuiet_nil ?_
                  intro wq hw'
                  obtain ⟨⟨wz, hz⟩, hw''⟩ := hw'
                  dsimp only at hw''
                  subst hw''
                  go_wp2_with fail
                  go_roundw
                  case rel =>
                    obtain ⟨ml2, o1, o2⟩ := HE.out
                    exact ⟨i + 1, n + 1, some ⟨g, 0, none⟩, c3, by omega, rfl, by go_num, by have := Hni.out; omega, Lib.hid ⟨ml2, by rw [Hst.out]; exact sw_below o1 hz, o2⟩⟩
                  case measure => simp [vInt]; omega
                | true =>
                  have hlt2 : Hid (keyR x1 < keyR x0) := Lib.hid (hy1.2 hq)
                  have GB : Hid (∀ x : After wr.heap.size wr, Calls Tryz.prog 65 #[.agg #[.int .i64 x1.id, .int .i64 x1.src, .int .i64 x1.acc, .int .i64 x1.made, .int .i64 x1.about, .int .u8 x1.kind, .int .i64 x1.cents, .int .i64 x1.of_], .agg #[.int .i64 x0.id, .int .i64 x0.src, .int .i64 x0.acc, .int .i64 x0.made, .int .i64 x0.about, .int .u8 x0.kind, .int .i64 x0.cents, .int .i64 x0.of_]] x.val fun e w' => e = .returned (.bool true) ∧ Below x.val.heap.size x.val w') := Lib.hid (fun x => hq ▸ before3_any x1 x0 x.val)
                  clear hq hy1
                  go_upto_region 12 with fail
                  refine wp_region_class_lit (C := fun w' => ∃ z : After wr.heap.size wr, w' = z.val) (by kernel_rfl) (by kernel_rfl) ⟨⟨_, (Below.refl _ _).drew⟩, rfl⟩ ?_
                  repeat (go_big_quiet_step ((go_at_call 65; with_reducible exact after_of (Nat.le_refl _) _ (GB.out _))))
                  refine wpQuiet_nil ?_
                  intro wq hw'
                  obtain ⟨⟨wz, hz⟩, hw''⟩ := hw'
                  dsimp only at hw''
                  subst hw''
                  have hV := sw_below HO.out hz
                  have ownV := hV.own
                  have belV := hV.bel
                  have HO2 := Lib.hid hV.perm
                  clear hV HO GB
                  clear za0 za1 za2 za3 za4 za5 za6 za7 zb0 zb1 zb2 zb3 zb4 zb5 zb6 zb7
                  clear hz
                  go_upto_region 14 with fail
                  have a0 : wq.cell? ⟨g, (m + 1) * 8, none⟩ = some (.int .i64 x1.id) := (ownV.cellAt ((m + 1) * 8) (by omega)).trans (HG1.out 0 (by omega))
                  have fa0 := ownV.frozenAt ((m + 1) * 8)
                  have a1 : wq.cell? ⟨g, (m + 1) * 8 + 1, none⟩ = some (.int .i64 x1.src) := (ownV.cellAt ((m + 1) * 8 + 1) (by omega)).trans (HG1.out 1 (by omega))
                  have fa1 := ownV.frozenAt ((m + 1) * 8 + 1)
                  have a2 : wq.cell? ⟨g, (m + 1) * 8 + 2, none⟩ = some (.int .i64 x1.acc) := (ownV.cellAt ((m + 1) * 8 + 2) (by omega)).trans (HG1.out 2 (by omega))
                  have fa2 := ownV.frozenAt ((m + 1) * 8 + 2)
                  have a3 : wq.cell? ⟨g, (m + 1) * 8 + 3, none⟩ = some (.int .i64 x1.made) := (ownV.cellAt ((m + 1) * 8 + 3) (by omega)).trans (HG1.out 3 (by omega))
                  have fa3 := ownV.frozenAt ((m + 1) * 8 + 3)
                  have a4 : wq.cell? ⟨g, (m + 1) * 8 + 4, none⟩ = some (.int .i64 x1.about) := (ownV.cellAt ((m + 1) * 8 + 4) (by omega)).trans (HG1.out 4 (by omega))
                  have fa4 := ownV.frozenAt ((m + 1) * 8 + 4)
                  have a5 : wq.cell? ⟨g, (m + 1) * 8 + 5, none⟩ = some (.int .u8 x1.kind) := (ownV.cellAt ((m + 1) * 8 + 5) (by omega)).trans (HG1.out 5 (by omega))
                  have fa5 := ownV.frozenAt ((m + 1) * 8 + 5)
                  have a6 : wq.cell? ⟨g, (m + 1) * 8 + 6, none⟩ = some (.int .i64 x1.cents) := (ownV.cellAt ((m + 1) * 8 + 6) (by omega)).trans (HG1.out 6 (by omega))
                  have fa6 := ownV.frozenAt ((m + 1) * 8 + 6)
                  have a7 : wq.cell? ⟨g, (m + 1) * 8 + 7, none⟩ = some (.int .i64 x1.of_) := (ownV.cellAt ((m + 1) * 8 + 7) (by omega)).trans (HG1.out 7 (by omega))
                  have fa7 := ownV.frozenAt ((m + 1) * 8 + 7)
                  have b0 : wq.cell? ⟨g, m * 8, none⟩ = some (.int .i64 x0.id) := (ownV.cellAt (m * 8) (by omega)).trans (HG0.out 0 (by omega))
                  have fb0 := ownV.frozenAt (m * 8)
                  have b1 : wq.cell? ⟨g, m * 8 + 1, none⟩ = some (.int .i64 x0.src) := (ownV.cellAt (m * 8 + 1) (by omega)).trans (HG0.out 1 (by omega))
                  have fb1 := ownV.frozenAt (m * 8 + 1)
                  have b2 : wq.cell? ⟨g, m * 8 + 2, none⟩ = some (.int .i64 x0.acc) := (ownV.cellAt (m * 8 + 2) (by omega)).trans (HG0.out 2 (by omega))
                  have fb2 := ownV.frozenAt (m * 8 + 2)
                  have b3 : wq.cell? ⟨g, m * 8 + 3, none⟩ = some (.int .i64 x0.made) := (ownV.cellAt (m * 8 + 3) (by omega)).trans (HG0.out 3 (by omega))
                  have fb3 := ownV.frozenAt (m * 8 + 3)
                  have b4 : wq.cell? ⟨g, m * 8 + 4, none⟩ = some (.int .i64 x0.about) := (ownV.cellAt (m * 8 + 4) (by omega)).trans (HG0.out 4 (by omega))
                  have fb4 := ownV.frozenAt (m * 8 + 4)
                  have b5 : wq.cell? ⟨g, m * 8 + 5, none⟩ = some (.int .u8 x0.kind) := (ownV.cellAt (m * 8 + 5) (by omega)).trans (HG0.out 5 (by omega))
                  have fb5 := ownV.frozenAt (m * 8 + 5)
                  have b6 : wq.cell? ⟨g, m * 8 + 6, none⟩ = some (.int .i64 x0.cents) := (ownV.cellAt (m * 8 + 6) (by omega)).trans (HG0.out 6 (by omega))
                  have fb6 := ownV.frozenAt (m * 8 + 6)
                  have b7 : wq.cell? ⟨g, m * 8 + 7, none⟩ = some (.int .i64 x0.of_) := (ownV.cellAt (m * 8 + 7) (by omega)).trans (HG0.out 7 (by omega))
                  have fb7 := ownV.frozenAt (m * 8 + 7)
                  have OwnV := Lib.hid ownV
                  have hne : (m + 1) * 8 ≠ m * 8 := by omega
                  clear ownV
                  go_region
                  go_wp2_with fail
                  go_roundw
                  case rel =>
                    refine ⟨m, m, by omega, rfl, by first | rfl | go_num, ?_⟩
                    obtain ⟨ml2, o1, o2⟩ := sw_next Hml.out HO2.out OwnV.out belV (by rw [Hml.out]; omega) (by rw [Hml.out]; omega) Hx0.out Hx1.out hlt2.out HI.out
                    exact Lib.hid ⟨ml2, sw_drew o1, o2⟩
                  case measure => simp [vInt]
      · have e7 : decide (7 < r.kind) = true := decide_eq_true (by omega)
        have Hst : Hid (stood l (i + 1) = stood l i) := Lib.hid (by rw [HT.out, if_neg (by unfold factB; simp; omega), List.append_nil])
        have HS := Lib.hid hS
        have HO := Lib.hid hO
        clear hR hS hO h7 HWd HCo
        go_wp2_with fail
        have hfin := sw_below HS.out ((Below.refl wr.heap.size wr).alloc (Nat.le_refl _) (.cells #[.int .i64 r.id, .int .i64 r.src, .int .i64 r.acc, .int .i64 r.made, .int .i64 r.about, .int .u8 r.kind, .int .i64 r.cents, .int .i64 r.of_] 56))
        go_roundw
        case rel => exact ⟨i + 1, n, A2, c2, by omega, rfl, by go_num, by omega, Lib.hid ⟨ml, by rw [Hst.out]; exact hfin, HO.out⟩⟩
        case measure => simp [vInt]; omega
    · have hil : ¬ (i : Int) < (l.length : Int) := by omega
      obtain ⟨ml, hS, hO⟩ := hR.out
      have hii : i = l.length := by omega
      subst hii
      have hp : ml.Perm (standS l) := by rw [← stood_end]; exact hS.perm
      have he : ml = standL l := standL_eq HK.out.nodup hp (by
        have hn2 : (ml.map Rep.id).Nodup := (hp.map Rep.id).nodup_iff.2 (standS_nodup HK.out.nodup)
        rw [List.pairwise_iff_getElem]
        intro a b ha hb hab
        have q1 := hO a b hab (by rw [← hS.len]; exact hb)
        rw [keyAt_get ml a ha, keyAt_get ml b hb] at q1
        have q2 : ml.Pairwise fun a b => a.id ≠ b.id := List.pairwise_map.1 hn2
        have q3 := (List.pairwise_iff_getElem.1 q2) a b ha hb hab
        have r1 := standOf_key HK.out ml[a] (hS.perm.mem_iff.1 (List.getElem_mem ha))
        have r2 := standOf_key HK.out ml[b] (hS.perm.mem_iff.1 (List.getElem_mem hb))
        rw [beforeB_iff]
        unfold keyR at q1
        omega)
      have Hown := Lib.hid hS.own
      have Hbel := Lib.hid hS.bel
      have Hlen := Lib.hid hS.len
      have He := Lib.hid he
      clear hR hS hO hp he HWd HCo
      go_wp2_with fail
      go_ret
      exact ⟨_, rfl, by rw [← He.out, Hlen.out]; exact Hown.out, Hbel.out⟩

end Go.Proofs.YtkpaikampmeooaaGreatDoor
