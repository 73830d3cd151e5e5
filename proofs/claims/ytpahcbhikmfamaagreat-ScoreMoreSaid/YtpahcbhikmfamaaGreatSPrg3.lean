/- Trees and models, by the program: whether they are valid. Written by a program. -/
import Derived.Test.YtpahcbhikmfamaaGreatSPrg2

namespace Go.Proofs.YtpahcbhikmfamaaGreat
open Go.RowKit Go.Maps

set_option maxHeartbeats 1000000 in
theorem treeV1_any (y : Nod) (i n : Nat) (T : Option Addr) (t : Nat) (traits : Int) (tb sb : Nat) (w : World) (ht : w.cell? ⟨tb, 1, none⟩ = some (.slice T n t)) (htb : tb < w.heap.size) (hs : w.cell? ⟨sb, 0, none⟩ = some (.int .i64 traits)) (hsb : sb < w.heap.size) (hi : i ≤ 1000) (hn : n ≤ 1000) (h5 : 1 ≤ traits ∧ traits ≤ 5) :
    Calls Tryz.prog 74 #[.int .i64 i, .agg #[.int .i64 y.tr, .int .i64 y.cut, .int .i64 y.low, .int .i64 y.high, .int .i64 y.pts], .pointer (some ⟨tb, 0, none⟩), .pointer (some ⟨sb, 0, none⟩)] w fun e w' => e = .returned (.bool (nodB n traits i y)) ∧ Below w.heap.size w w' := by
  have b1 := (Below.refl w.heap.size w).alloc (Nat.le_refl _) (.cells #[.int .i64 y.tr, .int .i64 y.cut, .int .i64 y.low, .int .i64 y.high, .int .i64 y.pts] 48)
  have k1c := (Blk.new w #[.int .i64 y.tr, .int .i64 y.cut, .int .i64 y.low, .int .i64 y.high, .int .i64 y.pts] 48).cell
  have ht1 := (b1.cell (p := ⟨tb, 1, none⟩) htb).trans ht
  have hs1 := (b1.cell (p := ⟨sb, 0, none⟩) hsb).trans hs
  have z1 : IntKind.i64.wrap ((i : Int) + 1) = (i : Int) + 1 := IntWalk.i64_in _ (by omega)
  have z2 : IntKind.i64.wrap ((n : Int) - 1) = (n : Int) - 1 := IntWalk.i64_in _ (by omega)
  have HN := Lib.hid (fun W => nodeV_any y n i traits W h5)
  generalize nodB n traits i y = V at *
  clear ht hs
  go_enter Tryz.func74, Tryz.ntmps74
  go_wp2_with (go_at_call 75; (with_reducible refine (HN.out _).mono ?_); rintro e w5 ⟨rfl, h5⟩)
  go_ret
  exact ⟨rfl, b1.trans (h5.mono b1.size)⟩
set_option maxRecDepth 100000 in
set_option maxHeartbeats 4000000 in
theorem allNod_any (tb sb : Nat) (l : List Nod) (A : Option Addr) (a : Nat) (P : Nat → Bool) (w : World) (h : NodsAt w w.heap.size A l) (hl : l.length ≤ 1000)
    (HG : Hid (∀ i (_ : i < l.length) W, Below w.heap.size w W → Calls Tryz.prog 74 #[.int .i64 i, .agg #[.int .i64 l[i].tr, .int .i64 l[i].cut, .int .i64 l[i].low, .int .i64 l[i].high, .int .i64 l[i].pts], .pointer (some ⟨tb, 0, none⟩), .pointer (some ⟨sb, 0, none⟩)] W fun e w' => e = .returned (.bool (P i)) ∧ Below W.heap.size W w')) :
    Calls Tryz.prog 73 #[.slice A l.length a, .func (.func 74) #[] #[.pointer (some ⟨tb, 0, none⟩), .pointer (some ⟨sb, 0, none⟩)]] w fun e w' => e = .returned (.bool (rangeB l.length P)) ∧ Below w.heap.size w w' := by
  have HE : Hid (rangeB l.length P = rangeB l.length P) := Lib.hid rfl
  generalize hV : rangeB l.length P = V at *
  have HV := Lib.hid hV
  clear hV HE
  go_enter Tryz.func73, Tryz.ntmps73
  go_wp2_with fail
  go_loopw [9] (fun ii wr => ∃ i : Nat, i ≤ l.length ∧ ii = .int .i64 i ∧ Hid ((∀ j, j < i → P j = true) ∧ Below w.heap.size w wr)) (fun ii _ => l.length - (vInt ii).toNat)
  case atStart => exact ⟨0, Nat.zero_le _, rfl, Lib.hid ⟨fun j hj => by omega, Below.refl _ _⟩⟩
  case round =>
    obtain ⟨i, hi, rfl, hR⟩ := hrel
    obtain ⟨hS, hB⟩ := hR.out
    by_cases hlt : i < l.length
    · have hil : (i : Int) < (l.length : Int) := by omega
      obtain ⟨b, off, rfl, hb, c0, c1, c2, c3, c4⟩ := nods_at (h.later hB) hlt
      have HGi := Lib.hid (HG.out i hlt (wr.alloc (.cells #[.int .i64 l[i].tr, .int .i64 l[i].cut, .int .i64 l[i].low, .int .i64 l[i].high, .int .i64 l[i].pts] 48)) (hB.alloc hB.size (.cells #[.int .i64 l[i].tr, .int .i64 l[i].cut, .int .i64 l[i].low, .int .i64 l[i].high, .int .i64 l[i].pts] 48)))
      have hB1 : Below w.heap.size w (wr.alloc (.cells #[.int .i64 l[i].tr, .int .i64 l[i].cut, .int .i64 l[i].low, .int .i64 l[i].high, .int .i64 l[i].pts] 48)) := (hB.alloc hB.size (.cells #[.int .i64 l[i].tr, .int .i64 l[i].cut, .int .i64 l[i].low, .int .i64 l[i].high, .int .i64 l[i].pts] 48))
      cases hv : P i with
      | false =>
        have Hv : Hid (V = false) := Lib.hid (by rw [← HV.out]; exact rangeB_stop hlt hv)
        rw [hv] at HGi
        clear hS hR HG hv h
        generalize l[i] = y at *
        have knc := (Blk.new wr #[.int .i64 y.tr, .int .i64 y.cut, .int .i64 y.low, .int .i64 y.high, .int .i64 y.pts] 48).cell
        go_wp2_with (go_at_call 74; (with_reducible refine (HGi.out).mono ?_); rintro e w5 ⟨rfl, h5⟩)
        go_ret
        exact ⟨by rw [Hv.out]; rfl, hB1.trans (h5.mono hB1.size)⟩
      | true =>
        have HJ : Hid (∀ j, j < i + 1 → P j = true) := Lib.hid (fun j hj => by
          rcases Nat.lt_or_ge j i with hj2 | hj2
          · exact hS j hj2
          · rw [show j = i by omega]; exact hv)
        rw [hv] at HGi
        clear hS hR hv
        generalize l[i] = y at *
        have knc := (Blk.new wr #[.int .i64 y.tr, .int .i64 y.cut, .int .i64 y.low, .int .i64 y.high, .int .i64 y.pts] 48).cell
        go_wp2_with (go_at_call 74; (with_reducible refine (HGi.out).mono ?_); rintro e w5 ⟨rfl, h5⟩)
        go_roundw
        case rel => exact ⟨i + 1, by omega, by go_num, Lib.hid ⟨HJ.out, hB1.trans (h5.mono hB1.size)⟩⟩
        case measure => simp [vInt]; omega
    · have hil : ¬ (i : Int) < (l.length : Int) := by omega
      obtain rfl : i = l.length := by omega
      have Hv : Hid (V = true) := Lib.hid (by rw [← HV.out]; exact rangeB_iff.2 hS)
      clear hS hR
      go_wp2_with fail
      go_ret
      exact ⟨by rw [Hv.out]; rfl, hB⟩


set_option maxRecDepth 100000 in
set_option maxHeartbeats 4000000 in
theorem treeV_all (wt : Int) (l : List Nod) (T : Option Addr) (t : Nat) (traits : Int) (w : World) (h : NodsAt w w.heap.size T l) (hl : l.length ≤ 20) (h5 : 1 ≤ traits ∧ traits ≤ 5) :
    Calls Tryz.prog 61 #[.agg #[.int .i64 wt, .slice T l.length t], .int .i64 traits] w fun e w' => e = .returned (.bool (treB traits ⟨wt, l⟩)) ∧ Below w.heap.size w w' := by
  have b1 := ((Below.refl w.heap.size w).alloc (Nat.le_refl _) (.cells #[.int .i64 wt, .slice T l.length t] 45)).alloc (by simp) (.cells #[.int .i64 traits] 3)
  have k1 := (Blk.new w #[.int .i64 wt, .slice T l.length t] 45).alloc (.cells #[.int .i64 traits] 3)
  have k2 := Blk.new (w.alloc (.cells #[.int .i64 wt, .slice T l.length t] 45)) #[.int .i64 traits] 3
  simp only [World.size_alloc] at k2
  have k1c := k1.cell
  have k2c := k2.cell
  have HW := Lib.hid (fun W => withinP_any wt 0 1000 W)
  have HL := Lib.hid (fun W => withinP_any l.length 1 7 W)
  have HA := Lib.hid (allNod_any w.heap.size (w.heap.size + 1) l T t (fun i => nodB l.length traits i (l.getD i default)) _ (h.later b1) (by omega) (Lib.hid (fun i hi W hb => by
    rw [getD_lt l default hi]
    exact treeV1_any l[i] i l.length T t traits w.heap.size (w.heap.size + 1) W ((k1.below hb k1.lt).cell 1) (k1.below hb k1.lt).lt ((k2.below hb k2.lt).cell 0) (k2.below hb k2.lt).lt (by omega) (by omega) h5)))
  have HD : Hid (treB traits ⟨wt, l⟩ = (inN wt 0 1000 && inN l.length 1 7 && rangeB l.length fun i => nodB l.length traits i (l.getD i default))) := Lib.hid rfl
  generalize treB traits ⟨wt, l⟩ = V at *
  generalize (rangeB l.length fun i => nodB l.length traits i (l.getD i default)) = al at *
  clear h
  cases q1 : inN wt 0 1000 with
  | false =>
    have Hv : Hid (V = false) := Lib.hid (by rw [HD.out, q1]; rfl)
    rw [q1] at HW
    clear HD q1 HL HA
    go_enter Tryz.func61, Tryz.ntmps61
    go_wp2_with (go_at_call 36; (with_reducible refine (HW.out _).mono ?_); rintro e w1 ⟨rfl, rfl⟩)
    go_ret
    exact ⟨by rw [Hv.out]; rfl, b1⟩
  | true =>
    rw [q1] at HW
    cases q2 : inN l.length 1 7 with
    | false =>
      have Hv : Hid (V = false) := Lib.hid (by rw [HD.out, q1, q2]; rfl)
      rw [q2] at HL
      clear HD q1 q2 HA
      go_enter Tryz.func61, Tryz.ntmps61
      go_wp2_with (first
        | (go_at_call 36; (with_reducible refine (HW.out _).mono ?_); rintro e w1 ⟨rfl, rfl⟩)
        | (go_at_call 36; (with_reducible refine (HL.out _).mono ?_); rintro e w1 ⟨rfl, rfl⟩))
      go_ret
      exact ⟨by rw [Hv.out]; rfl, b1⟩
    | true =>
      have Hv : Hid (V = al) := Lib.hid (by rw [HD.out, q1, q2]; simp)
      rw [q2] at HL
      clear HD q1 q2
      go_enter Tryz.func61, Tryz.ntmps61
      go_wp2_with (first
        | (go_at_call 36; (with_reducible refine (HW.out _).mono ?_); rintro e w1 ⟨rfl, rfl⟩)
        | (go_at_call 36; (with_reducible refine (HL.out _).mono ?_); rintro e w1 ⟨rfl, rfl⟩)
        | (go_at_call 73; (with_reducible refine (HA.out).mono ?_); rintro e w5 ⟨rfl, h5⟩))
      go_ret
      exact ⟨by rw [Hv.out]; rfl, b1.trans (h5.mono b1.size)⟩
theorem treeV_any (x : TreD) (traits : Int) (w : World) (h : NodsAt w w.heap.size x.T x.v.nodes) (hl : x.v.nodes.length ≤ 20) (ht : 1 ≤ traits ∧ traits ≤ 5) :
    Calls Tryz.prog 61 #[.agg #[.int .i64 x.v.weight, .slice x.T x.v.nodes.length x.t], .int .i64 traits] w fun e w' => e = .returned (.bool (treB traits x.v)) ∧ Below w.heap.size w w' := treeV_all x.v.weight x.v.nodes x.T x.t traits w h hl ht

set_option maxHeartbeats 1000000 in
theorem modelV1_any (y : CrdD) (i : Int) (traits : Int) (mb : Nat) (w : World) (h : SclsAt w w.heap.size y.S y.scales) (hl : y.scales.length ≤ 10) (hls : ∀ z ∈ y.scales, SclLe z.v) (hm : w.cell? ⟨mb, 0, none⟩ = some (.int .i64 traits)) (hmb : mb < w.heap.size) :
    Calls Tryz.prog 57 #[.int .i64 i, .agg #[.int .i64 y.weight, .int .i64 y.base, .slice y.S y.scales.length y.s], .pointer (some ⟨mb, 0, none⟩)] w fun e w' => e = .returned (.bool (crdB traits y.v)) ∧ Below w.heap.size w w' := by
  have b1 := (Below.refl w.heap.size w).alloc (Nat.le_refl _) (.cells #[.int .i64 y.weight, .int .i64 y.base, .slice y.S y.scales.length y.s] 37)
  have k1c := (Blk.new w #[.int .i64 y.weight, .int .i64 y.base, .slice y.S y.scales.length y.s] 37).cell
  have hm1 := (b1.cell (p := ⟨mb, 0, none⟩) hmb).trans hm
  have H := Lib.hid (cardV_any y traits _ (h.later b1) hl hls)
  clear h hl hls hm
  generalize crdB traits y.v = V at *
  go_enter Tryz.func57, Tryz.ntmps57
  go_wp2_with (go_at_call 58; (with_reducible refine (H.out).mono ?_); rintro e w5 ⟨rfl, h5⟩)
  go_ret
  exact ⟨rfl, b1.trans (h5.mono b1.size)⟩
set_option maxHeartbeats 1000000 in
theorem modelV2_any (y : TreD) (i : Int) (traits : Int) (mb : Nat) (w : World) (h : NodsAt w w.heap.size y.T y.v.nodes) (hl : y.v.nodes.length ≤ 20) (ht : 1 ≤ traits ∧ traits ≤ 5) (hm : w.cell? ⟨mb, 0, none⟩ = some (.int .i64 traits)) (hmb : mb < w.heap.size) :
    Calls Tryz.prog 60 #[.int .i64 i, .agg #[.int .i64 y.v.weight, .slice y.T y.v.nodes.length y.t], .pointer (some ⟨mb, 0, none⟩)] w fun e w' => e = .returned (.bool (treB traits y.v)) ∧ Below w.heap.size w w' := by
  have b1 := (Below.refl w.heap.size w).alloc (Nat.le_refl _) (.cells #[.int .i64 y.v.weight, .slice y.T y.v.nodes.length y.t] 45)
  have k1c := (Blk.new w #[.int .i64 y.v.weight, .slice y.T y.v.nodes.length y.t] 45).cell
  have hm1 := (b1.cell (p := ⟨mb, 0, none⟩) hmb).trans hm
  have H := Lib.hid (treeV_any y traits _ (h.later b1) hl ht)
  clear h hl hm
  generalize treB traits y.v = V at *
  go_enter Tryz.func60, Tryz.ntmps60
  go_wp2_with (go_at_call 61; (with_reducible refine (H.out).mono ?_); rintro e w5 ⟨rfl, h5⟩)
  go_ret
  exact ⟨rfl, b1.trans (h5.mono b1.size)⟩
set_option maxRecDepth 100000 in
set_option maxHeartbeats 4000000 in
theorem allCrd_any (mb : Nat) (l : List CrdD) (A : Option Addr) (a : Nat) (P : Nat → Bool) (w : World) (h : Flat 3 crdC w w.heap.size A l) (hl : l.length ≤ 1000)
    (HG : Hid (∀ i (_ : i < l.length) W, Below w.heap.size w W → Calls Tryz.prog 57 #[.int .i64 i, .agg #[.int .i64 l[i].weight, .int .i64 l[i].base, .slice l[i].S l[i].scales.length l[i].s], .pointer (some ⟨mb, 0, none⟩)] W fun e w' => e = .returned (.bool (P i)) ∧ Below W.heap.size W w')) :
    Calls Tryz.prog 56 #[.slice A l.length a, .func (.func 57) #[] #[.pointer (some ⟨mb, 0, none⟩)]] w fun e w' => e = .returned (.bool (rangeB l.length P)) ∧ Below w.heap.size w w' := by
  have HE : Hid (rangeB l.length P = rangeB l.length P) := Lib.hid rfl
  generalize hV : rangeB l.length P = V at *
  have HV := Lib.hid hV
  clear hV HE
  go_enter Tryz.func56, Tryz.ntmps56
  go_wp2_with fail
  go_loopw [9] (fun ii wr => ∃ i : Nat, i ≤ l.length ∧ ii = .int .i64 i ∧ Hid ((∀ j, j < i → P j = true) ∧ Below w.heap.size w wr)) (fun ii _ => l.length - (vInt ii).toNat)
  case atStart => exact ⟨0, Nat.zero_le _, rfl, Lib.hid ⟨fun j hj => by omega, Below.refl _ _⟩⟩
  case round =>
    obtain ⟨i, hi, rfl, hR⟩ := hrel
    obtain ⟨hS, hB⟩ := hR.out
    by_cases hlt : i < l.length
    · have hil : (i : Int) < (l.length : Int) := by omega
      obtain ⟨b, off, rfl, hb, c0, c1, c2⟩ := crds_at (h.later hB) hlt
      have HGi := Lib.hid (HG.out i hlt (wr.alloc (.cells #[.int .i64 l[i].weight, .int .i64 l[i].base, .slice l[i].S l[i].scales.length l[i].s] 37)) (hB.alloc hB.size (.cells #[.int .i64 l[i].weight, .int .i64 l[i].base, .slice l[i].S l[i].scales.length l[i].s] 37)))
      have hB1 : Below w.heap.size w (wr.alloc (.cells #[.int .i64 l[i].weight, .int .i64 l[i].base, .slice l[i].S l[i].scales.length l[i].s] 37)) := (hB.alloc hB.size (.cells #[.int .i64 l[i].weight, .int .i64 l[i].base, .slice l[i].S l[i].scales.length l[i].s] 37))
      cases hv : P i with
      | false =>
        have Hv : Hid (V = false) := Lib.hid (by rw [← HV.out]; exact rangeB_stop hlt hv)
        rw [hv] at HGi
        clear hS hR HG hv h
        generalize l[i] = y at *
        have knc := (Blk.new wr #[.int .i64 y.weight, .int .i64 y.base, .slice y.S y.scales.length y.s] 37).cell
        go_wp2_with (go_at_call 57; (with_reducible refine (HGi.out).mono ?_); rintro e w5 ⟨rfl, h5⟩)
        go_ret
        exact ⟨by rw [Hv.out]; rfl, hB1.trans (h5.mono hB1.size)⟩
      | true =>
        have HJ : Hid (∀ j, j < i + 1 → P j = true) := Lib.hid (fun j hj => by
          rcases Nat.lt_or_ge j i with hj2 | hj2
          · exact hS j hj2
          · rw [show j = i by omega]; exact hv)
        rw [hv] at HGi
        clear hS hR hv
        generalize l[i] = y at *
        have knc := (Blk.new wr #[.int .i64 y.weight, .int .i64 y.base, .slice y.S y.scales.length y.s] 37).cell
        go_wp2_with (go_at_call 57; (with_reducible refine (HGi.out).mono ?_); rintro e w5 ⟨rfl, h5⟩)
        go_roundw
        case rel => exact ⟨i + 1, by omega, by go_num, Lib.hid ⟨HJ.out, hB1.trans (h5.mono hB1.size)⟩⟩
        case measure => simp [vInt]; omega
    · have hil : ¬ (i : Int) < (l.length : Int) := by omega
      obtain rfl : i = l.length := by omega
      have Hv : Hid (V = true) := Lib.hid (by rw [← HV.out]; exact rangeB_iff.2 hS)
      clear hS hR
      go_wp2_with fail
      go_ret
      exact ⟨by rw [Hv.out]; rfl, hB⟩


set_option maxRecDepth 100000 in
set_option maxHeartbeats 4000000 in
theorem allTre_any (mb : Nat) (l : List TreD) (A : Option Addr) (a : Nat) (P : Nat → Bool) (w : World) (h : Flat 2 treC w w.heap.size A l) (hl : l.length ≤ 1000)
    (HG : Hid (∀ i (_ : i < l.length) W, Below w.heap.size w W → Calls Tryz.prog 60 #[.int .i64 i, .agg #[.int .i64 l[i].v.weight, .slice l[i].T l[i].v.nodes.length l[i].t], .pointer (some ⟨mb, 0, none⟩)] W fun e w' => e = .returned (.bool (P i)) ∧ Below W.heap.size W w')) :
    Calls Tryz.prog 59 #[.slice A l.length a, .func (.func 60) #[] #[.pointer (some ⟨mb, 0, none⟩)]] w fun e w' => e = .returned (.bool (rangeB l.length P)) ∧ Below w.heap.size w w' := by
  have HE : Hid (rangeB l.length P = rangeB l.length P) := Lib.hid rfl
  generalize hV : rangeB l.length P = V at *
  have HV := Lib.hid hV
  clear hV HE
  go_enter Tryz.func59, Tryz.ntmps59
  go_wp2_with fail
  go_loopw [9] (fun ii wr => ∃ i : Nat, i ≤ l.length ∧ ii = .int .i64 i ∧ Hid ((∀ j, j < i → P j = true) ∧ Below w.heap.size w wr)) (fun ii _ => l.length - (vInt ii).toNat)
  case atStart => exact ⟨0, Nat.zero_le _, rfl, Lib.hid ⟨fun j hj => by omega, Below.refl _ _⟩⟩
  case round =>
    obtain ⟨i, hi, rfl, hR⟩ := hrel
    obtain ⟨hS, hB⟩ := hR.out
    by_cases hlt : i < l.length
    · have hil : (i : Int) < (l.length : Int) := by omega
      obtain ⟨b, off, rfl, hb, c0, c1⟩ := tres_at (h.later hB) hlt
      have HGi := Lib.hid (HG.out i hlt (wr.alloc (.cells #[.int .i64 l[i].v.weight, .slice l[i].T l[i].v.nodes.length l[i].t] 45)) (hB.alloc hB.size (.cells #[.int .i64 l[i].v.weight, .slice l[i].T l[i].v.nodes.length l[i].t] 45)))
      have hB1 : Below w.heap.size w (wr.alloc (.cells #[.int .i64 l[i].v.weight, .slice l[i].T l[i].v.nodes.length l[i].t] 45)) := (hB.alloc hB.size (.cells #[.int .i64 l[i].v.weight, .slice l[i].T l[i].v.nodes.length l[i].t] 45))
      cases hv : P i with
      | false =>
        have Hv : Hid (V = false) := Lib.hid (by rw [← HV.out]; exact rangeB_stop hlt hv)
        rw [hv] at HGi
        clear hS hR HG hv h
        generalize l[i] = y at *
        have knc := (Blk.new wr #[.int .i64 y.v.weight, .slice y.T y.v.nodes.length y.t] 45).cell
        go_wp2_with (go_at_call 60; (with_reducible refine (HGi.out).mono ?_); rintro e w5 ⟨rfl, h5⟩)
        go_ret
        exact ⟨by rw [Hv.out]; rfl, hB1.trans (h5.mono hB1.size)⟩
      | true =>
        have HJ : Hid (∀ j, j < i + 1 → P j = true) := Lib.hid (fun j hj => by
          rcases Nat.lt_or_ge j i with hj2 | hj2
          · exact hS j hj2
          · rw [show j = i by omega]; exact hv)
        rw [hv] at HGi
        clear hS hR hv
        generalize l[i] = y at *
        have knc := (Blk.new wr #[.int .i64 y.v.weight, .slice y.T y.v.nodes.length y.t] 45).cell
        go_wp2_with (go_at_call 60; (with_reducible refine (HGi.out).mono ?_); rintro e w5 ⟨rfl, h5⟩)
        go_roundw
        case rel => exact ⟨i + 1, by omega, by go_num, Lib.hid ⟨HJ.out, hB1.trans (h5.mono hB1.size)⟩⟩
        case measure => simp [vInt]; omega
    · have hil : ¬ (i : Int) < (l.length : Int) := by omega
      obtain rfl : i = l.length := by omega
      have Hv : Hid (V = true) := Lib.hid (by rw [← HV.out]; exact rangeB_iff.2 hS)
      clear hS hR
      go_wp2_with fail
      go_ret
      exact ⟨by rw [Hv.out]; rfl, hB⟩


set_option maxRecDepth 100000 in
set_option maxHeartbeats 8000000 in
theorem modelV_all (traits need : Int) (cl : List CrdD) (tl : List TreD) (C T : Option Addr) (c t : Nat) (w : World) (h : MdlAt w w.heap.size ⟨traits, cl, C, c, tl, T, t, need⟩) (hls : MdlLe ⟨traits, cl, C, c, tl, T, t, need⟩) :
    Calls Tryz.prog 44 #[.agg #[.int .i64 traits, .slice C cl.length c, .slice T tl.length t, .int .i64 need]] w fun e w' => e = .returned (.bool (mdlB ⟨traits, cl.map CrdD.v, tl.map TreD.v, need⟩)) ∧ Below w.heap.size w w' := by
  have b1 := (Below.refl w.heap.size w).alloc (Nat.le_refl _) (.cells #[.int .i64 traits, .slice C cl.length c, .slice T tl.length t, .int .i64 need] 25)
  have k1 := Blk.new w #[.int .i64 traits, .slice C cl.length c, .slice T tl.length t, .int .i64 need] 25
  have g1 := k1.lt
  have k1c := k1.cell
  have HW := Lib.hid (fun W => withinP_any traits 1 5 W)
  have HP := Lib.hid (fun ty => pointV_any need ty (w.alloc (.cells #[.int .i64 traits, .slice C cl.length c, .slice T tl.length t, .int .i64 need] 25)))
  have hnl : cl.length ≤ 6 ∧ tl.length ≤ 6 := ⟨hls.cards, hls.trees⟩
  have HA0 : Hid (1 ≤ traits ∧ traits ≤ 5 → ∀ W, Below w.heap.size w W → Blk W w.heap.size #[.int .i64 traits, .slice C cl.length c, .slice T tl.length t, .int .i64 need] 25 → Calls Tryz.prog 56 #[.slice C cl.length c, .func (.func 57) #[] #[.pointer (some ⟨w.heap.size, 0, none⟩)]] W fun e w' => e = .returned (.bool (cl.all fun y => crdB traits y.v)) ∧ Below W.heap.size W w') := Lib.hid (fun ht5 W hb hk => by
    have q := allCrd_any w.heap.size cl C c (fun i => crdB traits (cl.getD i default).v) W (h.later hb).cards.row (by omega) (Lib.hid (fun i hi W2 hb2 => by
      rw [getD_lt cl default hi]
      exact modelV1_any cl[i] i traits w.heap.size W2 (((h.later hb).later hb2).cards.each _ (List.getElem_mem hi)) (hls.scales _ (List.getElem_mem hi)) (hls.scl _ (List.getElem_mem hi)) ((hk.below hb2 hk.lt).cell 0) (hk.below hb2 hk.lt).lt))
    rw [range_all cl default (fun y : CrdD => crdB traits y.v)] at q
    exact q)
  have HB0 : Hid (1 ≤ traits ∧ traits ≤ 5 → ∀ W, Below w.heap.size w W → Blk W w.heap.size #[.int .i64 traits, .slice C cl.length c, .slice T tl.length t, .int .i64 need] 25 → Calls Tryz.prog 59 #[.slice T tl.length t, .func (.func 60) #[] #[.pointer (some ⟨w.heap.size, 0, none⟩)]] W fun e w' => e = .returned (.bool (tl.all fun y => treB traits y.v)) ∧ Below W.heap.size W w') := Lib.hid (fun ht5 W hb hk => by
    have q := allTre_any w.heap.size tl T t (fun i => treB traits (tl.getD i default).v) W (h.later hb).trees.row (by omega) (Lib.hid (fun i hi W2 hb2 => by
      rw [getD_lt tl default hi]
      exact modelV2_any tl[i] i traits w.heap.size W2 (((h.later hb).later hb2).trees.each _ (List.getElem_mem hi)) (hls.nodes _ (List.getElem_mem hi)) ht5 ((hk.below hb2 hk.lt).cell 0) (hk.below hb2 hk.lt).lt))
    rw [range_all tl default (fun y : TreD => treB traits y.v)] at q
    exact q)
  have HD : Hid (mdlB ⟨traits, cl.map CrdD.v, tl.map TreD.v, need⟩ = (inN traits 1 5 && ptB need && decide (cl.length ≤ 2) && decide (tl.length ≤ 2) && (cl.all fun y => crdB traits y.v) && (tl.all fun y => treB traits y.v))) := Lib.hid (by unfold mdlB; simp [List.all_map, Function.comp_def])
  clear h hls
  generalize mdlB ⟨traits, cl.map CrdD.v, tl.map TreD.v, need⟩ = V at *
  generalize (cl.all fun y => crdB traits y.v) = ac at *
  generalize (tl.all fun y => treB traits y.v) = at_ at *
  by_cases hc0 : inN traits 1 5 = true
  · rw [hc0] at HW
    have ht5 := inN_iff.1 hc0
    have HA := Lib.hid (HA0.out ht5)
    have HB := Lib.hid (HB0.out ht5)
    by_cases hc1 : ptB need = true
    · rw [hc1] at HP
      by_cases hc2 : cl.length ≤ 2
      · have n2 : (cl.length : Int) ≤ 2 := by omega
        by_cases hc3 : tl.length ≤ 2
        · have n3 : (tl.length : Int) ≤ 2 := by omega
          by_cases hc4 : ac = true
          · rw [hc4] at HA
            have Hv : Hid (V = at_) := Lib.hid (by rw [HD.out, hc0, hc1, hc4, decide_eq_true (by omega : cl.length ≤ 2), decide_eq_true (by omega : tl.length ≤ 2)]; simp)
            clear HD
            go_enter Tryz.func44, Tryz.ntmps44
            go_upto_region 1 with fail
            generalize hW1 : w.alloc (.cells #[.int .i64 traits, .slice C cl.length c, .slice T tl.length t, .int .i64 need] 25) = W1 at *
            clear hW1
            go_wp2_with (first
              | (go_at_call 36; (with_reducible refine (HW.out _).mono ?_); rintro e w1 ⟨rfl, rfl⟩)
              | (go_at_call 55; (with_reducible refine (HP.out _).mono ?_); rintro e w5 ⟨rfl, h5⟩; have b5 := b1.trans (h5.mono b1.size); have k5 := k1.below h5 g1; have k5c := k5.cell)
              | (go_at_call 56; (with_reducible refine (HA.out _ b5 k5).mono ?_); rintro e w6 ⟨rfl, h6⟩; have b6 := b5.trans (h6.mono b5.size); have k6 := k5.below h6 k5.lt; have k6c := k6.cell)
              | (go_at_call 59; (with_reducible refine (HB.out _ b6 k6).mono ?_); rintro e w7 ⟨rfl, h7⟩; have b7 := b6.trans (h7.mono b6.size)))
            all_goals (try (exfalso; omega))
            go_ret
            exact ⟨by rw [Hv.out]; rfl, b7⟩
          · have hb4 : ac = false := by simpa using hc4
            rw [hb4] at HA
            have Hv : Hid (V = false) := Lib.hid (by rw [HD.out, hb4]; simp)
            clear HD
            go_enter Tryz.func44, Tryz.ntmps44
            go_upto_region 1 with fail
            generalize hW1 : w.alloc (.cells #[.int .i64 traits, .slice C cl.length c, .slice T tl.length t, .int .i64 need] 25) = W1 at *
            clear hW1
            go_wp2_with (first
              | (go_at_call 36; (with_reducible refine (HW.out _).mono ?_); rintro e w1 ⟨rfl, rfl⟩)
              | (go_at_call 55; (with_reducible refine (HP.out _).mono ?_); rintro e w5 ⟨rfl, h5⟩; have b5 := b1.trans (h5.mono b1.size); have k5 := k1.below h5 g1; have k5c := k5.cell)
              | (go_at_call 56; (with_reducible refine (HA.out _ b5 k5).mono ?_); rintro e w6 ⟨rfl, h6⟩; have b6 := b5.trans (h6.mono b5.size); have k6 := k5.below h6 k5.lt; have k6c := k6.cell)
              | (go_at_call 59; (with_reducible refine (HB.out _ b6 k6).mono ?_); rintro e w7 ⟨rfl, h7⟩; have b7 := b6.trans (h7.mono b6.size)))
            all_goals (try (exfalso; omega))
            go_ret
            exact ⟨by rw [Hv.out]; rfl, b6⟩
        · have n3 : ¬ (tl.length : Int) ≤ 2 := by omega
          have Hv : Hid (V = false) := Lib.hid (by rw [HD.out, decide_eq_false (by omega : ¬ tl.length ≤ 2)]; simp)
          clear HD
          go_enter Tryz.func44, Tryz.ntmps44
          go_upto_region 1 with fail
          generalize hW1 : w.alloc (.cells #[.int .i64 traits, .slice C cl.length c, .slice T tl.length t, .int .i64 need] 25) = W1 at *
          clear hW1
          go_wp2_with (first
            | (go_at_call 36; (with_reducible refine (HW.out _).mono ?_); rintro e w1 ⟨rfl, rfl⟩)
            | (go_at_call 55; (with_reducible refine (HP.out _).mono ?_); rintro e w5 ⟨rfl, h5⟩; have b5 := b1.trans (h5.mono b1.size); have k5 := k1.below h5 g1; have k5c := k5.cell)
            | (go_at_call 56; (with_reducible refine (HA.out _ b5 k5).mono ?_); rintro e w6 ⟨rfl, h6⟩; have b6 := b5.trans (h6.mono b5.size); have k6 := k5.below h6 k5.lt; have k6c := k6.cell)
            | (go_at_call 59; (with_reducible refine (HB.out _ b6 k6).mono ?_); rintro e w7 ⟨rfl, h7⟩; have b7 := b6.trans (h7.mono b6.size)))
          all_goals (try (exfalso; omega))
          go_ret
          exact ⟨by rw [Hv.out]; rfl, b5⟩
      · have n2 : ¬ (cl.length : Int) ≤ 2 := by omega
        have Hv : Hid (V = false) := Lib.hid (by rw [HD.out, decide_eq_false (by omega : ¬ cl.length ≤ 2)]; simp)
        clear HD
        go_enter Tryz.func44, Tryz.ntmps44
        go_upto_region 1 with fail
        generalize hW1 : w.alloc (.cells #[.int .i64 traits, .slice C cl.length c, .slice T tl.length t, .int .i64 need] 25) = W1 at *
        clear hW1
        go_wp2_with (first
          | (go_at_call 36; (with_reducible refine (HW.out _).mono ?_); rintro e w1 ⟨rfl, rfl⟩)
          | (go_at_call 55; (with_reducible refine (HP.out _).mono ?_); rintro e w5 ⟨rfl, h5⟩; have b5 := b1.trans (h5.mono b1.size); have k5 := k1.below h5 g1; have k5c := k5.cell)
          | (go_at_call 56; (with_reducible refine (HA.out _ b5 k5).mono ?_); rintro e w6 ⟨rfl, h6⟩; have b6 := b5.trans (h6.mono b5.size); have k6 := k5.below h6 k5.lt; have k6c := k6.cell)
          | (go_at_call 59; (with_reducible refine (HB.out _ b6 k6).mono ?_); rintro e w7 ⟨rfl, h7⟩; have b7 := b6.trans (h7.mono b6.size)))
        all_goals (try (exfalso; omega))
        go_ret
        exact ⟨by rw [Hv.out]; rfl, b5⟩
    · have hb1 : ptB need = false := by simpa using hc1
      rw [hb1] at HP
      have Hv : Hid (V = false) := Lib.hid (by rw [HD.out, hb1]; simp)
      clear HD
      go_enter Tryz.func44, Tryz.ntmps44
      go_upto_region 1 with fail
      generalize hW1 : w.alloc (.cells #[.int .i64 traits, .slice C cl.length c, .slice T tl.length t, .int .i64 need] 25) = W1 at *
      clear hW1
      go_wp2_with (first
        | (go_at_call 36; (with_reducible refine (HW.out _).mono ?_); rintro e w1 ⟨rfl, rfl⟩)
        | (go_at_call 55; (with_reducible refine (HP.out _).mono ?_); rintro e w5 ⟨rfl, h5⟩; have b5 := b1.trans (h5.mono b1.size); have k5 := k1.below h5 g1; have k5c := k5.cell)
        | (go_at_call 56; (with_reducible refine (HA.out _ b5 k5).mono ?_); rintro e w6 ⟨rfl, h6⟩; have b6 := b5.trans (h6.mono b5.size); have k6 := k5.below h6 k5.lt; have k6c := k6.cell)
        | (go_at_call 59; (with_reducible refine (HB.out _ b6 k6).mono ?_); rintro e w7 ⟨rfl, h7⟩; have b7 := b6.trans (h7.mono b6.size)))
      all_goals (try (exfalso; omega))
      go_ret
      exact ⟨by rw [Hv.out]; rfl, b5⟩
  · have hb0 : inN traits 1 5 = false := by simpa using hc0
    rw [hb0] at HW
    have HA : Hid True := Lib.hid trivial
    have HB : Hid True := Lib.hid trivial
    have Hv : Hid (V = false) := Lib.hid (by rw [HD.out, hb0]; simp)
    clear HD
    go_enter Tryz.func44, Tryz.ntmps44
    go_upto_region 1 with fail
    generalize hW1 : w.alloc (.cells #[.int .i64 traits, .slice C cl.length c, .slice T tl.length t, .int .i64 need] 25) = W1 at *
    clear hW1
    go_wp2_with (first
      | (go_at_call 36; (with_reducible refine (HW.out _).mono ?_); rintro e w1 ⟨rfl, rfl⟩)
      | (go_at_call 55; (with_reducible refine (HP.out _).mono ?_); rintro e w5 ⟨rfl, h5⟩; have b5 := b1.trans (h5.mono b1.size); have k5 := k1.below h5 g1; have k5c := k5.cell)
      | (go_at_call 56; (with_reducible refine (HA.out _ b5 k5).mono ?_); rintro e w6 ⟨rfl, h6⟩; have b6 := b5.trans (h6.mono b5.size); have k6 := k5.below h6 k5.lt; have k6c := k6.cell)
      | (go_at_call 59; (with_reducible refine (HB.out _ b6 k6).mono ?_); rintro e w7 ⟨rfl, h7⟩; have b7 := b6.trans (h7.mono b6.size)))
    all_goals (try (exfalso; omega))
    go_ret
    exact ⟨by rw [Hv.out]; rfl, b1⟩
theorem modelV_any (m : MdlD) (w : World) (h : MdlAt w w.heap.size m) (hls : MdlLe m) :
    Calls Tryz.prog 44 #[.agg #[.int .i64 m.traits, .slice m.C m.cards.length m.c, .slice m.T m.trees.length m.t, .int .i64 m.need]] w fun e w' => e = .returned (.bool (mdlB m.v)) ∧ Below w.heap.size w w' := modelV_all m.traits m.need m.cards m.trees m.C m.T m.c m.t w h hls

set_option maxHeartbeats 1000000 in
theorem checkP_any (m : MdlD) (w : World) (h : MdlAt w w.heap.size m) (hls : MdlLe m) :
    Calls Tryz.prog 32 #[.agg #[.int .i64 m.traits, .slice m.C m.cards.length m.c, .slice m.T m.trees.length m.t, .int .i64 m.need]] w fun e w' => e = .returned (.int .i64 (mdlE m.v)) ∧ Below w.heap.size w w' := by
  have b1 := (Below.refl w.heap.size w).alloc (Nat.le_refl _) (.cells #[.int .i64 m.traits, .slice m.C m.cards.length m.c, .slice m.T m.trees.length m.t, .int .i64 m.need] 25)
  have k1c := (Blk.new w #[.int .i64 m.traits, .slice m.C m.cards.length m.c, .slice m.T m.trees.length m.t, .int .i64 m.need] 25).cell
  have H := Lib.hid (modelV_any m _ (h.later b1) hls)
  cases q : mdlB m.v with
  | false =>
    have Hv : Hid (mdlE m.v = 60) := Lib.hid (by unfold mdlE; rw [q]; rfl)
    rw [q] at H
    clear h hls q
    generalize mdlE m.v = V at *
    go_enter Tryz.func32, Tryz.ntmps32
    go_wp2_with (go_at_call 44; (with_reducible refine (H.out).mono ?_); rintro e w5 ⟨rfl, h5⟩)
    go_ret
    exact ⟨by rw [Hv.out]; rfl, b1.trans (h5.mono b1.size)⟩
  | true =>
    have Hv : Hid (mdlE m.v = 0) := Lib.hid (by unfold mdlE; rw [q]; rfl)
    rw [q] at H
    clear h hls q
    generalize mdlE m.v = V at *
    go_enter Tryz.func32, Tryz.ntmps32
    go_wp2_with (go_at_call 44; (with_reducible refine (H.out).mono ?_); rintro e w5 ⟨rfl, h5⟩)
    go_ret
    exact ⟨by rw [Hv.out]; rfl, b1.trans (h5.mono b1.size)⟩
end Go.Proofs.YtpahcbhikmfamaaGreat
