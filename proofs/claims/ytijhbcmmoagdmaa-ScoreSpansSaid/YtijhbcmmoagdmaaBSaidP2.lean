/- Trees and models, by the program: whether they are valid. Written by a program. -/
import Derived.Test.YtijhbcmmoagdmaaBSaidP1
import Derived.Handy

namespace Go.Proofs.Ytijhbcmmoagdmaa
open Go.RowKit Go.Maps

set_option maxHeartbeats 1000000 in
theorem treeV1_any (y : Nod) (i n : Nat) (T : Option Addr) (t : Nat) (traits : Int) (tb sb : Nat) (w : World) (ht : w.cell? ⟨tb, 1, none⟩ = some (.slice T n t)) (htb : tb < w.heap.size) (hs : w.cell? ⟨sb, 0, none⟩ = some (.int .i64 traits)) (hsb : sb < w.heap.size) (hi : i ≤ 1000) (hn : n ≤ 1000) (h5 : 1 ≤ traits ∧ traits ≤ 5) :
    Calls Try.prog 62 #[.int .i64 i, .agg #[.int .i64 y.tr, .int .i64 y.cut, .int .i64 y.low, .int .i64 y.high, .int .i64 y.pts], .pointer (some ⟨tb, 0, none⟩), .pointer (some ⟨sb, 0, none⟩)] w fun e w' => e = .returned (.bool (nodB n traits i y)) ∧ Below w.heap.size w w' := by
  have b1 := (Below.refl w.heap.size w).alloc (Nat.le_refl _) (.cells #[.int .i64 y.tr, .int .i64 y.cut, .int .i64 y.low, .int .i64 y.high, .int .i64 y.pts] 74)
  have k1c := (Blk.new w #[.int .i64 y.tr, .int .i64 y.cut, .int .i64 y.low, .int .i64 y.high, .int .i64 y.pts] 74).cell
  have ht1 := (b1.cell (p := ⟨tb, 1, none⟩) htb).trans ht
  have hs1 := (b1.cell (p := ⟨sb, 0, none⟩) hsb).trans hs
  have z1 : IntKind.i64.wrap ((i : Int) + 1) = (i : Int) + 1 := IntWalk.i64_in _ (by omega)
  have z2 : IntKind.i64.wrap ((n : Int) - 1) = (n : Int) - 1 := IntWalk.i64_in _ (by omega)
  have HN := Lib.hid (fun W => nodeV_any y n i traits W h5)
  generalize nodB n traits i y = V at *
  clear ht hs
  go_enter Try.func62, Try.ntmps62
  go_wp2_with (go_at_call 63; (with_reducible refine (HN.out _).mono ?_); rintro e w5 ⟨rfl, h5⟩)
  go_ret
  exact ⟨rfl, b1.trans (h5.mono b1.size)⟩
set_option maxRecDepth 100000 in
set_option maxHeartbeats 4000000 in
theorem allNod_any (tb sb : Nat) (l : List Nod) (A : Option Addr) (a : Nat) (P : Nat → Bool) (w : World) (h : NodsAt w w.heap.size A l) (hl : l.length ≤ 1000)
    (HG : Hid (∀ i (_ : i < l.length) W, Below w.heap.size w W → Calls Try.prog 62 #[.int .i64 i, .agg #[.int .i64 l[i].tr, .int .i64 l[i].cut, .int .i64 l[i].low, .int .i64 l[i].high, .int .i64 l[i].pts], .pointer (some ⟨tb, 0, none⟩), .pointer (some ⟨sb, 0, none⟩)] W fun e w' => e = .returned (.bool (P i)) ∧ Below W.heap.size W w')) :
    Calls Try.prog 61 #[.slice A l.length a, .func (.func 62) #[] #[.pointer (some ⟨tb, 0, none⟩), .pointer (some ⟨sb, 0, none⟩)]] w fun e w' => e = .returned (.bool (rangeB l.length P)) ∧ Below w.heap.size w w' := by
  have HE : Hid (rangeB l.length P = rangeB l.length P) := Lib.hid rfl
  generalize hV : rangeB l.length P = V at *
  have HV := Lib.hid hV
  clear hV HE
  go_enter Try.func61, Try.ntmps61
  go_wp2_with fail
  go_loopw [9] (fun ii wr => ∃ i : Nat, i ≤ l.length ∧ ii = .int .i64 i ∧ Hid ((∀ j, j < i → P j = true) ∧ Below w.heap.size w wr)) (fun ii _ => l.length - (vInt ii).toNat)
  case atStart => exact ⟨0, Nat.zero_le _, rfl, Lib.hid ⟨fun j hj => by omega, Below.refl _ _⟩⟩
  case round =>
    obtain ⟨i, hi, rfl, hR⟩ := hrel
    obtain ⟨hS, hB⟩ := hR.out
    by_cases hlt : i < l.length
    · have hil : (i : Int) < (l.length : Int) := by omega
      obtain ⟨b, off, rfl, hb, c0, c1, c2, c3, c4⟩ := nods_at (h.later hB) hlt
      have HGi := Lib.hid (HG.out i hlt (wr.alloc (.cells #[.int .i64 l[i].tr, .int .i64 l[i].cut, .int .i64 l[i].low, .int .i64 l[i].high, .int .i64 l[i].pts] 74)) (hB.alloc hB.size (.cells #[.int .i64 l[i].tr, .int .i64 l[i].cut, .int .i64 l[i].low, .int .i64 l[i].high, .int .i64 l[i].pts] 74)))
      have hB1 : Below w.heap.size w (wr.alloc (.cells #[.int .i64 l[i].tr, .int .i64 l[i].cut, .int .i64 l[i].low, .int .i64 l[i].high, .int .i64 l[i].pts] 74)) := (hB.alloc hB.size (.cells #[.int .i64 l[i].tr, .int .i64 l[i].cut, .int .i64 l[i].low, .int .i64 l[i].high, .int .i64 l[i].pts] 74))
      cases hv : P i with
      | false =>
        have Hv : Hid (V = false) := Lib.hid (by rw [← HV.out]; exact rangeB_stop hlt hv)
        rw [hv] at HGi
        clear hS hR HG hv h
        generalize l[i] = y at *
        have knc := (Blk.new wr #[.int .i64 y.tr, .int .i64 y.cut, .int .i64 y.low, .int .i64 y.high, .int .i64 y.pts] 74).cell
        go_wp2_with (go_at_call 62; (with_reducible refine (HGi.out).mono ?_); rintro e w5 ⟨rfl, h5⟩)
        go_ret
        exact ⟨by rw [Hv.out]; rfl, hB1.trans (h5.mono hB1.size)⟩
      | true =>
        have HJ : Hid (∀ j, j < i + 1 → P j = true) := Lib.hid (fun j hj => by
          rcases Nat.lt_or_ge j i with hj2 | hj2
          · exact hS j hj2
          · rw [show j = i by omega]; exact hv)
        rw [hv] at HGi
        clear hS hR hv
        generalize l[i] = y at *
        have knc := (Blk.new wr #[.int .i64 y.tr, .int .i64 y.cut, .int .i64 y.low, .int .i64 y.high, .int .i64 y.pts] 74).cell
        go_wp2_with (go_at_call 62; (with_reducible refine (HGi.out).mono ?_); rintro e w5 ⟨rfl, h5⟩)
        go_roundw
        case rel => exact ⟨i + 1, by omega, by go_num, Lib.hid ⟨HJ.out, hB1.trans (h5.mono hB1.size)⟩⟩
        case measure => simp [vInt]; omega
    · have hil : ¬ (i : Int) < (l.length : Int) := by omega
      obtain rfl : i = l.length := by omega
      have Hv : Hid (V = true) := Lib.hid (by rw [← HV.out]; exact rangeB_iff.2 hS)
      clear hS hR
      go_wp2_with fail
      go_ret
      exact ⟨by rw [Hv.out]; rfl, hB⟩


set_option maxRecDepth 100000 in
set_option maxHeartbeats 4000000 in
theorem treeV_all (wt : Int) (l : List Nod) (T : Option Addr) (t : Nat) (traits : Int) (w : World) (h : NodsAt w w.heap.size T l) (hl : l.length ≤ 20) (h5 : 1 ≤ traits ∧ traits ≤ 5) :
    Calls Try.prog 46 #[.agg #[.int .i64 wt, .slice T l.length t], .int .i64 traits] w fun e w' => e = .returned (.bool (treB traits ⟨wt, l⟩)) ∧ Below w.heap.size w w' := by
  have b1 := ((Below.refl w.heap.size w).alloc (Nat.le_refl _) (.cells #[.int .i64 wt, .slice T l.length t] 58)).alloc (by simp) (.cells #[.int .i64 traits] 3)
  have k1 := (Blk.new w #[.int .i64 wt, .slice T l.length t] 58).alloc (.cells #[.int .i64 traits] 3)
  have k2 := Blk.new (w.alloc (.cells #[.int .i64 wt, .slice T l.length t] 58)) #[.int .i64 traits] 3
  simp only [World.size_alloc] at k2
  have k1c := k1.cell
  have k2c := k2.cell
  have HW := Lib.hid (fun W => withinP_any wt 0 1000 W)
  have HL := Lib.hid (fun W => withinP_any l.length 1 7 W)
  have HA := Lib.hid (allNod_any w.heap.size (w.heap.size + 1) l T t (fun i => nodB l.length traits i (l.getD i default)) _ (h.later b1) (by omega) (Lib.hid (fun i hi W hb => by
    rw [getD_lt l default hi]
    exact treeV1_any l[i] i l.length T t traits w.heap.size (w.heap.size + 1) W ((k1.below hb k1.lt).cell 1) (k1.below hb k1.lt).lt ((k2.below hb k2.lt).cell 0) (k2.below hb k2.lt).lt (by omega) (by omega) h5)))
  have HD : Hid (treB traits ⟨wt, l⟩ = (inN wt 0 1000 && inN l.length 1 7 && rangeB l.length fun i => nodB l.length traits i (l.getD i default))) := Lib.hid rfl
  generalize treB traits ⟨wt, l⟩ = V at *
  generalize (rangeB l.length fun i => nodB l.length traits i (l.getD i default)) = al at *
  clear h
  cases q1 : inN wt 0 1000 with
  | false =>
    have Hv : Hid (V = false) := Lib.hid (by rw [HD.out, q1]; rfl)
    rw [q1] at HW
    clear HD q1 HL HA
    go_enter Try.func46, Try.ntmps46
    go_wp2_with (go_at_call 39; (with_reducible refine (HW.out _).mono ?_); rintro e w1 ⟨rfl, rfl⟩)
    go_ret
    exact ⟨by rw [Hv.out]; rfl, b1⟩
  | true =>
    rw [q1] at HW
    cases q2 : inN l.length 1 7 with
    | false =>
      have Hv : Hid (V = false) := Lib.hid (by rw [HD.out, q1, q2]; rfl)
      rw [q2] at HL
      clear HD q1 q2 HA
      go_enter Try.func46, Try.ntmps46
      go_wp2_with (first
        | (go_at_call 39; (with_reducible refine (HW.out _).mono ?_); rintro e w1 ⟨rfl, rfl⟩)
        | (go_at_call 39; (with_reducible refine (HL.out _).mono ?_); rintro e w1 ⟨rfl, rfl⟩))
      go_ret
      exact ⟨by rw [Hv.out]; rfl, b1⟩
    | true =>
      have Hv : Hid (V = al) := Lib.hid (by rw [HD.out, q1, q2]; simp)
      rw [q2] at HL
      clear HD q1 q2
      go_enter Try.func46, Try.ntmps46
      go_wp2_with (first
        | (go_at_call 39; (with_reducible refine (HW.out _).mono ?_); rintro e w1 ⟨rfl, rfl⟩)
        | (go_at_call 39; (with_reducible refine (HL.out _).mono ?_); rintro e w1 ⟨rfl, rfl⟩)
        | (go_at_call 61; (with_reducible refine (HA.out).mono ?_); rintro e w5 ⟨rfl, h5⟩))
      go_ret
      exact ⟨by rw [Hv.out]; rfl, b1.trans (h5.mono b1.size)⟩
theorem treeV_any (x : TreD) (traits : Int) (w : World) (h : NodsAt w w.heap.size x.T x.v.nodes) (hl : x.v.nodes.length ≤ 20) (ht : 1 ≤ traits ∧ traits ≤ 5) :
    Calls Try.prog 46 #[.agg #[.int .i64 x.v.weight, .slice x.T x.v.nodes.length x.t], .int .i64 traits] w fun e w' => e = .returned (.bool (treB traits x.v)) ∧ Below w.heap.size w w' := treeV_all x.v.weight x.v.nodes x.T x.t traits w h hl ht

set_option maxHeartbeats 1000000 in
theorem modelV1_any (y : CrdD) (i : Int) (traits : Int) (mb : Nat) (w : World) (h : SclsAt w w.heap.size y.S y.scales) (hl : y.scales.length ≤ 10) (hls : ∀ z ∈ y.scales, SclLe z.v) (hm : w.cell? ⟨mb, 0, none⟩ = some (.int .i64 traits)) (hmb : mb < w.heap.size) :
    Calls Try.prog 42 #[.int .i64 i, .agg #[.int .i64 y.weight, .int .i64 y.base, .slice y.S y.scales.length y.s], .pointer (some ⟨mb, 0, none⟩)] w fun e w' => e = .returned (.bool (crdB traits y.v)) ∧ Below w.heap.size w w' := by
  have b1 := (Below.refl w.heap.size w).alloc (Nat.le_refl _) (.cells #[.int .i64 y.weight, .int .i64 y.base, .slice y.S y.scales.length y.s] 53)
  have k1c := (Blk.new w #[.int .i64 y.weight, .int .i64 y.base, .slice y.S y.scales.length y.s] 53).cell
  have hm1 := (b1.cell (p := ⟨mb, 0, none⟩) hmb).trans hm
  have H := Lib.hid (cardV_any y traits _ (h.later b1) hl hls)
  clear h hl hls hm
  generalize crdB traits y.v = V at *
  go_enter Try.func42, Try.ntmps42
  go_wp2_with (go_at_call 43; (with_reducible refine (H.out).mono ?_); rintro e w5 ⟨rfl, h5⟩)
  go_ret
  exact ⟨rfl, b1.trans (h5.mono b1.size)⟩
set_option maxHeartbeats 1000000 in
theorem modelV2_any (y : TreD) (i : Int) (traits : Int) (mb : Nat) (w : World) (h : NodsAt w w.heap.size y.T y.v.nodes) (hl : y.v.nodes.length ≤ 20) (ht : 1 ≤ traits ∧ traits ≤ 5) (hm : w.cell? ⟨mb, 0, none⟩ = some (.int .i64 traits)) (hmb : mb < w.heap.size) :
    Calls Try.prog 45 #[.int .i64 i, .agg #[.int .i64 y.v.weight, .slice y.T y.v.nodes.length y.t], .pointer (some ⟨mb, 0, none⟩)] w fun e w' => e = .returned (.bool (treB traits y.v)) ∧ Below w.heap.size w w' := by
  have b1 := (Below.refl w.heap.size w).alloc (Nat.le_refl _) (.cells #[.int .i64 y.v.weight, .slice y.T y.v.nodes.length y.t] 58)
  have k1c := (Blk.new w #[.int .i64 y.v.weight, .slice y.T y.v.nodes.length y.t] 58).cell
  have hm1 := (b1.cell (p := ⟨mb, 0, none⟩) hmb).trans hm
  have H := Lib.hid (treeV_any y traits _ (h.later b1) hl ht)
  clear h hl hm
  generalize treB traits y.v = V at *
  go_enter Try.func45, Try.ntmps45
  go_wp2_with (go_at_call 46; (with_reducible refine (H.out).mono ?_); rintro e w5 ⟨rfl, h5⟩)
  go_ret
  exact ⟨rfl, b1.trans (h5.mono b1.size)⟩
set_option maxRecDepth 100000 in
set_option maxHeartbeats 4000000 in
theorem allCrd_any (mb : Nat) (l : List CrdD) (A : Option Addr) (a : Nat) (P : Nat → Bool) (w : World) (h : Flat 3 crdC w w.heap.size A l) (hl : l.length ≤ 1000)
    (HG : Hid (∀ i (_ : i < l.length) W, Below w.heap.size w W → Calls Try.prog 42 #[.int .i64 i, .agg #[.int .i64 l[i].weight, .int .i64 l[i].base, .slice l[i].S l[i].scales.length l[i].s], .pointer (some ⟨mb, 0, none⟩)] W fun e w' => e = .returned (.bool (P i)) ∧ Below W.heap.size W w')) :
    Calls Try.prog 41 #[.slice A l.length a, .func (.func 42) #[] #[.pointer (some ⟨mb, 0, none⟩)]] w fun e w' => e = .returned (.bool (rangeB l.length P)) ∧ Below w.heap.size w w' := by
  have HE : Hid (rangeB l.length P = rangeB l.length P) := Lib.hid rfl
  generalize hV : rangeB l.length P = V at *
  have HV := Lib.hid hV
  clear hV HE
  go_enter Try.func41, Try.ntmps41
  go_wp2_with fail
  go_loopw [9] (fun ii wr => ∃ i : Nat, i ≤ l.length ∧ ii = .int .i64 i ∧ Hid ((∀ j, j < i → P j = true) ∧ Below w.heap.size w wr)) (fun ii _ => l.length - (vInt ii).toNat)
  case atStart => exact ⟨0, Nat.zero_le _, rfl, Lib.hid ⟨fun j hj => by omega, Below.refl _ _⟩⟩
  case round =>
    obtain ⟨i, hi, rfl, hR⟩ := hrel
    obtain ⟨hS, hB⟩ := hR.out
    by_cases hlt : i < l.length
    · have hil : (i : Int) < (l.length : Int) := by omega
      obtain ⟨b, off, rfl, hb, c0, c1, c2⟩ := crds_at (h.later hB) hlt
      have HGi := Lib.hid (HG.out i hlt (wr.alloc (.cells #[.int .i64 l[i].weight, .int .i64 l[i].base, .slice l[i].S l[i].scales.length l[i].s] 53)) (hB.alloc hB.size (.cells #[.int .i64 l[i].weight, .int .i64 l[i].base, .slice l[i].S l[i].scales.length l[i].s] 53)))
      have hB1 : Below w.heap.size w (wr.alloc (.cells #[.int .i64 l[i].weight, .int .i64 l[i].base, .slice l[i].S l[i].scales.length l[i].s] 53)) := (hB.alloc hB.size (.cells #[.int .i64 l[i].weight, .int .i64 l[i].base, .slice l[i].S l[i].scales.length l[i].s] 53))
      cases hv : P i with
      | false =>
        have Hv : Hid (V = false) := Lib.hid (by rw [← HV.out]; exact rangeB_stop hlt hv)
        rw [hv] at HGi
        clear hS hR HG hv h
        generalize l[i] = y at *
        have knc := (Blk.new wr #[.int .i64 y.weight, .int .i64 y.base, .slice y.S y.scales.length y.s] 53).cell
        go_wp2_with (go_at_call 42; (with_reducible refine (HGi.out).mono ?_); rintro e w5 ⟨rfl, h5⟩)
        go_ret
        exact ⟨by rw [Hv.out]; rfl, hB1.trans (h5.mono hB1.size)⟩
      | true =>
        have HJ : Hid (∀ j, j < i + 1 → P j = true) := Lib.hid (fun j hj => by
          rcases Nat.lt_or_ge j i with hj2 | hj2
          · exact hS j hj2
          · rw [show j = i by omega]; exact hv)
        rw [hv] at HGi
        clear hS hR hv
        generalize l[i] = y at *
        have knc := (Blk.new wr #[.int .i64 y.weight, .int .i64 y.base, .slice y.S y.scales.length y.s] 53).cell
        go_wp2_with (go_at_call 42; (with_reducible refine (HGi.out).mono ?_); rintro e w5 ⟨rfl, h5⟩)
        go_roundw
        case rel => exact ⟨i + 1, by omega, by go_num, Lib.hid ⟨HJ.out, hB1.trans (h5.mono hB1.size)⟩⟩
        case measure => simp [vInt]; omega
    · have hil : ¬ (i : Int) < (l.length : Int) := by omega
      obtain rfl : i = l.length := by omega
      have Hv : Hid (V = true) := Lib.hid (by rw [← HV.out]; exact rangeB_iff.2 hS)
      clear hS hR
      go_wp2_with fail
      go_ret
      exact ⟨by rw [Hv.out]; rfl, hB⟩


set_option maxRecDepth 100000 in
set_option maxHeartbeats 4000000 in
theorem allTre_any (mb : Nat) (l : List TreD) (A : Option Addr) (a : Nat) (P : Nat → Bool) (w : World) (h : Flat 2 treC w w.heap.size A l) (hl : l.length ≤ 1000)
    (HG : Hid (∀ i (_ : i < l.length) W, Below w.heap.size w W → Calls Try.prog 45 #[.int .i64 i, .agg #[.int .i64 l[i].v.weight, .slice l[i].T l[i].v.nodes.length l[i].t], .pointer (some ⟨mb, 0, none⟩)] W fun e w' => e = .returned (.bool (P i)) ∧ Below W.heap.size W w')) :
    Calls Try.prog 44 #[.slice A l.length a, .func (.func 45) #[] #[.pointer (some ⟨mb, 0, none⟩)]] w fun e w' => e = .returned (.bool (rangeB l.length P)) ∧ Below w.heap.size w w' := by
  have HE : Hid (rangeB l.length P = rangeB l.length P) := Lib.hid rfl
  generalize hV : rangeB l.length P = V at *
  have HV := Lib.hid hV
  clear hV HE
  go_enter Try.func44, Try.ntmps44
  go_wp2_with fail
  go_loopw [9] (fun ii wr => ∃ i : Nat, i ≤ l.length ∧ ii = .int .i64 i ∧ Hid ((∀ j, j < i → P j = true) ∧ Below w.heap.size w wr)) (fun ii _ => l.length - (vInt ii).toNat)
  case atStart => exact ⟨0, Nat.zero_le _, rfl, Lib.hid ⟨fun j hj => by omega, Below.refl _ _⟩⟩
  case round =>
    obtain ⟨i, hi, rfl, hR⟩ := hrel
    obtain ⟨hS, hB⟩ := hR.out
    by_cases hlt : i < l.length
    · have hil : (i : Int) < (l.length : Int) := by omega
      obtain ⟨b, off, rfl, hb, c0, c1⟩ := tres_at (h.later hB) hlt
      have HGi := Lib.hid (HG.out i hlt (wr.alloc (.cells #[.int .i64 l[i].v.weight, .slice l[i].T l[i].v.nodes.length l[i].t] 58)) (hB.alloc hB.size (.cells #[.int .i64 l[i].v.weight, .slice l[i].T l[i].v.nodes.length l[i].t] 58)))
      have hB1 : Below w.heap.size w (wr.alloc (.cells #[.int .i64 l[i].v.weight, .slice l[i].T l[i].v.nodes.length l[i].t] 58)) := (hB.alloc hB.size (.cells #[.int .i64 l[i].v.weight, .slice l[i].T l[i].v.nodes.length l[i].t] 58))
      cases hv : P i with
      | false =>
        have Hv : Hid (V = false) := Lib.hid (by rw [← HV.out]; exact rangeB_stop hlt hv)
        rw [hv] at HGi
        clear hS hR HG hv h
        generalize l[i] = y at *
        have knc := (Blk.new wr #[.int .i64 y.v.weight, .slice y.T y.v.nodes.length y.t] 58).cell
        go_wp2_with (go_at_call 45; (with_reducible refine (HGi.out).mono ?_); rintro e w5 ⟨rfl, h5⟩)
        go_ret
        exact ⟨by rw [Hv.out]; rfl, hB1.trans (h5.mono hB1.size)⟩
      | true =>
        have HJ : Hid (∀ j, j < i + 1 → P j = true) := Lib.hid (fun j hj => by
          rcases Nat.lt_or_ge j i with hj2 | hj2
          · exact hS j hj2
          · rw [show j = i by omega]; exact hv)
        rw [hv] at HGi
        clear hS hR hv
        generalize l[i] = y at *
        have knc := (Blk.new wr #[.int .i64 y.v.weight, .slice y.T y.v.nodes.length y.t] 58).cell
        go_wp2_with (go_at_call 45; (with_reducible refine (HGi.out).mono ?_); rintro e w5 ⟨rfl, h5⟩)
        go_roundw
        case rel => exact ⟨i + 1, by omega, by go_num, Lib.hid ⟨HJ.out, hB1.trans (h5.mono hB1.size)⟩⟩
        case measure => simp [vInt]; omega
    · have hil : ¬ (i : Int) < (l.length : Int) := by omega
      obtain rfl : i = l.length := by omega
      have Hv : Hid (V = true) := Lib.hid (by rw [← HV.out]; exact rangeB_iff.2 hS)
      clear hS hR
      go_wp2_with fail
      go_ret
      exact ⟨by rw [Hv.out]; rfl, hB⟩


set_option maxRecDepth 100000 in
set_option maxHeartbeats 8000000 in
theorem modelV_all (traits need : Int) (cl : List CrdD) (tl : List TreD) (C T : Option Addr) (c t : Nat) (w : World) (h : MdlAt w w.heap.size ⟨traits, cl, C, c, tl, T, t, need⟩) (hls : MdlLe ⟨traits, cl, C, c, tl, T, t, need⟩) :
    Calls Try.prog 24 #[.agg #[.int .i64 traits, .slice C cl.length c, .slice T tl.length t, .int .i64 need]] w fun e w' => e = .returned (.bool (mdlB ⟨traits, cl.map CrdD.v, tl.map TreD.v, need⟩)) ∧ Below w.heap.size w w' := by
  have b1 := (Below.refl w.heap.size w).alloc (Nat.le_refl _) (.cells #[.int .i64 traits, .slice C cl.length c, .slice T tl.length t, .int .i64 need] 25)
  have k1 := Blk.new w #[.int .i64 traits, .slice C cl.length c, .slice T tl.length t, .int .i64 need] 25
  have g1 := k1.lt
  have k1c := k1.cell
  have HW := Lib.hid (fun W => withinP_any traits 1 5 W)
  have HP := Lib.hid (fun ty => pointV_any need ty (w.alloc (.cells #[.int .i64 traits, .slice C cl.length c, .slice T tl.length t, .int .i64 need] 25)))
  have hnl : cl.length ≤ 6 ∧ tl.length ≤ 6 := ⟨hls.cards, hls.trees⟩
  have HA0 : Hid (1 ≤ traits ∧ traits ≤ 5 → ∀ W, Below w.heap.size w W → Blk W w.heap.size #[.int .i64 traits, .slice C cl.length c, .slice T tl.length t, .int .i64 need] 25 → Calls Try.prog 41 #[.slice C cl.length c, .func (.func 42) #[] #[.pointer (some ⟨w.heap.size, 0, none⟩)]] W fun e w' => e = .returned (.bool (cl.all fun y => crdB traits y.v)) ∧ Below W.heap.size W w') := Lib.hid (fun ht5 W hb hk => by
    have q := allCrd_any w.heap.size cl C c (fun i => crdB traits (cl.getD i default).v) W (h.later hb).cards.row (by omega) (Lib.hid (fun i hi W2 hb2 => by
      rw [getD_lt cl default hi]
      exact modelV1_any cl[i] i traits w.heap.size W2 (((h.later hb).later hb2).cards.each _ (List.getElem_mem hi)) (hls.scales _ (List.getElem_mem hi)) (hls.scl _ (List.getElem_mem hi)) ((hk.below hb2 hk.lt).cell 0) (hk.below hb2 hk.lt).lt))
    rw [range_all cl default (fun y : CrdD => crdB traits y.v)] at q
    exact q)
  have HB0 : Hid (1 ≤ traits ∧ traits ≤ 5 → ∀ W, Below w.heap.size w W → Blk W w.heap.size #[.int .i64 traits, .slice C cl.length c, .slice T tl.length t, .int .i64 need] 25 → Calls Try.prog 44 #[.slice T tl.length t, .func (.func 45) #[] #[.pointer (some ⟨w.heap.size, 0, none⟩)]] W fun e w' => e = .returned (.bool (tl.all fun y => treB traits y.v)) ∧ Below W.heap.size W w') := Lib.hid (fun ht5 W hb hk => by
    have q := allTre_any w.heap.size tl T t (fun i => treB traits (tl.getD i default).v) W (h.later hb).trees.row (by omega) (Lib.hid (fun i hi W2 hb2 => by
      rw [getD_lt tl default hi]
      exact modelV2_any tl[i] i traits w.heap.size W2 (((h.later hb).later hb2).trees.each _ (List.getElem_mem hi)) (hls.nodes _ (List.getElem_mem hi)) ht5 ((hk.below hb2 hk.lt).cell 0) (hk.below hb2 hk.lt).lt))
    rw [range_all tl default (fun y : TreD => treB traits y.v)] at q
    exact q)
  have HD : Hid (mdlB ⟨traits, cl.map CrdD.v, tl.map TreD.v, need⟩ = (inN traits 1 5 && ptB need && decide (cl.length ≤ 2) && decide (tl.length ≤ 2) && (cl.all fun y => crdB traits y.v) && (tl.all fun y => treB traits y.v))) := Lib.hid (by unfold mdlB; simp [List.all_map, Function.comp_def])
  clear h hls
  generalize mdlB ⟨traits, cl.map CrdD.v, tl.map TreD.v, need⟩ = V at *
  generalize (cl.all fun y => crdB traits y.v) = ac at *
  generalize (tl.all fun y => treB traits y.v) = at_ at *
  by_cases hc0 : inN traits 1 5 = true
  · rw [hc0] at HW
    have ht5 := inN_iff.1 hc0
    have HA := Lib.hid (HA0.out ht5)
    have HB := Lib.hid (HB0.out ht5)
    by_cases hc1 : ptB need = true
    · rw [hc1] at HP
      by_cases hc2 : cl.length ≤ 2
      · have n2 : (cl.length : Int) ≤ 2 := by omega
        by_cases hc3 : tl.length ≤ 2
        · have n3 : (tl.length : Int) ≤ 2 := by omega
          by_cases hc4 : ac = true
          · rw [hc4] at HA
            have Hv : Hid (V = at_) := Lib.hid (by rw [HD.out, hc0, hc1, hc4, decide_eq_true (by omega : cl.length ≤ 2), decide_eq_true (by omega : tl.length ≤ 2)]; simp)
            clear HD
            go_enter Try.func24, Try.ntmps24
            go_upto_region 1 with fail
            generalize hW1 : w.alloc (.cells #[.int .i64 traits, .slice C cl.length c, .slice T tl.length t, .int .i64 need] 25) = W1 at *
            clear hW1
            go_wp2_with (first
              | (go_at_call 39; (with_reducible refine (HW.out _).mono ?_); rintro e w1 ⟨rfl, rfl⟩)
              | (go_at_call 40; (with_reducible refine (HP.out _).mono ?_); rintro e w5 ⟨rfl, h5⟩; have b5 := b1.trans (h5.mono b1.size); have k5 := k1.below h5 g1; have k5c := k5.cell)
              | (go_at_call 41; (with_reducible refine (HA.out _ b5 k5).mono ?_); rintro e w6 ⟨rfl, h6⟩; have b6 := b5.trans (h6.mono b5.size); have k6 := k5.below h6 k5.lt; have k6c := k6.cell)
              | (go_at_call 44; (with_reducible refine (HB.out _ b6 k6).mono ?_); rintro e w7 ⟨rfl, h7⟩; have b7 := b6.trans (h7.mono b6.size)))
            all_goals (try (exfalso; omega))
            go_ret
            exact ⟨by rw [Hv.out]; rfl, b7⟩
          · have hb4 : ac = false := by simpa using hc4
            rw [hb4] at HA
            have Hv : Hid (V = false) := Lib.hid (by rw [HD.out, hb4]; simp)
            clear HD
            go_enter Try.func24, Try.ntmps24
            go_upto_region 1 with fail
            generalize hW1 : w.alloc (.cells #[.int .i64 traits, .slice C cl.length c, .slice T tl.length t, .int .i64 need] 25) = W1 at *
            clear hW1
            go_wp2_with (first
              | (go_at_call 39; (with_reducible refine (HW.out _).mono ?_); rintro e w1 ⟨rfl, rfl⟩)
              | (go_at_call 40; (with_reducible refine (HP.out _).mono ?_); rintro e w5 ⟨rfl, h5⟩; have b5 := b1.trans (h5.mono b1.size); have k5 := k1.below h5 g1; have k5c := k5.cell)
              | (go_at_call 41; (with_reducible refine (HA.out _ b5 k5).mono ?_); rintro e w6 ⟨rfl, h6⟩; have b6 := b5.trans (h6.mono b5.size); have k6 := k5.below h6 k5.lt; have k6c := k6.cell)
              | (go_at_call 44; (with_reducible refine (HB.out _ b6 k6).mono ?_); rintro e w7 ⟨rfl, h7⟩; have b7 := b6.trans (h7.mono b6.size)))
            all_goals (try (exfalso; omega))
            go_ret
            exact ⟨by rw [Hv.out]; rfl, b6⟩
        · have n3 : ¬ (tl.length : Int) ≤ 2 := by omega
          have Hv : Hid (V = false) := Lib.hid (by rw [HD.out, decide_eq_false (by omega : ¬ tl.length ≤ 2)]; simp)
          clear HD
          go_enter Try.func24, Try.ntmps24
          go_upto_region 1 with fail
          generalize hW1 : w.alloc (.cells #[.int .i64 traits, .slice C cl.length c, .slice T tl.length t, .int .i64 need] 25) = W1 at *
          clear hW1
          go_wp2_with (first
            | (go_at_call 39; (with_reducible refine (HW.out _).mono ?_); rintro e w1 ⟨rfl, rfl⟩)
            | (go_at_call 40; (with_reducible refine (HP.out _).mono ?_); rintro e w5 ⟨rfl, h5⟩; have b5 := b1.trans (h5.mono b1.size); have k5 := k1.below h5 g1; have k5c := k5.cell)
            | (go_at_call 41; (with_reducible refine (HA.out _ b5 k5).mono ?_); rintro e w6 ⟨rfl, h6⟩; have b6 := b5.trans (h6.mono b5.size); have k6 := k5.below h6 k5.lt; have k6c := k6.cell)
            | (go_at_call 44; (with_reducible refine (HB.out _ b6 k6).mono ?_); rintro e w7 ⟨rfl, h7⟩; have b7 := b6.trans (h7.mono b6.size)))
          all_goals (try (exfalso; omega))
          go_ret
          exact ⟨by rw [Hv.out]; rfl, b5⟩
      · have n2 : ¬ (cl.length : Int) ≤ 2 := by omega
        have Hv : Hid (V = false) := Lib.hid (by rw [HD.out, decide_eq_false (by omega : ¬ cl.length ≤ 2)]; simp)
        clear HD
        go_enter Try.func24, Try.ntmps24
        go_upto_region 1 with fail
        generalize hW1 : w.alloc (.cells #[.int .i64 traits, .slice C cl.length c, .slice T tl.length t, .int .i64 need] 25) = W1 at *
        clear hW1
        go_wp2_with (first
          | (go_at_call 39; (with_reducible refine (HW.out _).mono ?_); rintro e w1 ⟨rfl, rfl⟩)
          | (go_at_call 40; (with_reducible refine (HP.out _).mono ?_); rintro e w5 ⟨rfl, h5⟩; have b5 := b1.trans (h5.mono b1.size); have k5 := k1.below h5 g1; have k5c := k5.cell)
          | (go_at_call 41; (with_reducible refine (HA.out _ b5 k5).mono ?_); rintro e w6 ⟨rfl, h6⟩; have b6 := b5.trans (h6.mono b5.size); have k6 := k5.below h6 k5.lt; have k6c := k6.cell)
          | (go_at_call 44; (with_reducible refine (HB.out _ b6 k6).mono ?_); rintro e w7 ⟨rfl, h7⟩; have b7 := b6.trans (h7.mono b6.size)))
        all_goals (try (exfalso; omega))
        go_ret
        exact ⟨by rw [Hv.out]; rfl, b5⟩
    · have hb1 : ptB need = false := by simpa using hc1
      rw [hb1] at HP
      have Hv : Hid (V = false) := Lib.hid (by rw [HD.out, hb1]; simp)
      clear HD
      go_enter Try.func24, Try.ntmps24
      go_upto_region 1 with fail
      generalize hW1 : w.alloc (.cells #[.int .i64 traits, .slice C cl.length c, .slice T tl.length t, .int .i64 need] 25) = W1 at *
      clear hW1
      go_wp2_with (first
        | (go_at_call 39; (with_reducible refine (HW.out _).mono ?_); rintro e w1 ⟨rfl, rfl⟩)
        | (go_at_call 40; (with_reducible refine (HP.out _).mono ?_); rintro e w5 ⟨rfl, h5⟩; have b5 := b1.trans (h5.mono b1.size); have k5 := k1.below h5 g1; have k5c := k5.cell)
        | (go_at_call 41; (with_reducible refine (HA.out _ b5 k5).mono ?_); rintro e w6 ⟨rfl, h6⟩; have b6 := b5.trans (h6.mono b5.size); have k6 := k5.below h6 k5.lt; have k6c := k6.cell)
        | (go_at_call 44; (with_reducible refine (HB.out _ b6 k6).mono ?_); rintro e w7 ⟨rfl, h7⟩; have b7 := b6.trans (h7.mono b6.size)))
      all_goals (try (exfalso; omega))
      go_ret
      exact ⟨by rw [Hv.out]; rfl, b5⟩
  · have hb0 : inN traits 1 5 = false := by simpa using hc0
    rw [hb0] at HW
    have HA : Hid True := Lib.hid trivial
    have HB : Hid True := Lib.hid trivial
    have Hv : Hid (V = false) := Lib.hid (by rw [HD.out, hb0]; simp)
    clear HD
    go_enter Try.func24, Try.ntmps24
    go_upto_region 1 with fail
    generalize hW1 : w.alloc (.cells #[.int .i64 traits, .slice C cl.length c, .slice T tl.length t, .int .i64 need] 25) = W1 at *
    clear hW1
    go_wp2_with (first
      | (go_at_call 39; (with_reducible refine (HW.out _).mono ?_); rintro e w1 ⟨rfl, rfl⟩)
      | (go_at_call 40; (with_reducible refine (HP.out _).mono ?_); rintro e w5 ⟨rfl, h5⟩; have b5 := b1.trans (h5.mono b1.size); have k5 := k1.below h5 g1; have k5c := k5.cell)
      | (go_at_call 41; (with_reducible refine (HA.out _ b5 k5).mono ?_); rintro e w6 ⟨rfl, h6⟩; have b6 := b5.trans (h6.mono b5.size); have k6 := k5.below h6 k5.lt; have k6c := k6.cell)
      | (go_at_call 44; (with_reducible refine (HB.out _ b6 k6).mono ?_); rintro e w7 ⟨rfl, h7⟩; have b7 := b6.trans (h7.mono b6.size)))
    all_goals (try (exfalso; omega))
    go_ret
    exact ⟨by rw [Hv.out]; rfl, b1⟩
theorem modelV_any (m : MdlD) (w : World) (h : MdlAt w w.heap.size m) (hls : MdlLe m) :
    Calls Try.prog 24 #[.agg #[.int .i64 m.traits, .slice m.C m.cards.length m.c, .slice m.T m.trees.length m.t, .int .i64 m.need]] w fun e w' => e = .returned (.bool (mdlB m.v)) ∧ Below w.heap.size w w' := modelV_all m.traits m.need m.cards m.trees m.C m.T m.c m.t w h hls

set_option maxHeartbeats 1000000 in
theorem checkP_any (m : MdlD) (w : World) (h : MdlAt w w.heap.size m) (hls : MdlLe m) :
    Calls Try.prog 11 #[.agg #[.int .i64 m.traits, .slice m.C m.cards.length m.c, .slice m.T m.trees.length m.t, .int .i64 m.need]] w fun e w' => e = .returned (.int .i64 (mdlE m.v)) ∧ Below w.heap.size w w' := by
  have b1 := (Below.refl w.heap.size w).alloc (Nat.le_refl _) (.cells #[.int .i64 m.traits, .slice m.C m.cards.length m.c, .slice m.T m.trees.length m.t, .int .i64 m.need] 25)
  have k1c := (Blk.new w #[.int .i64 m.traits, .slice m.C m.cards.length m.c, .slice m.T m.trees.length m.t, .int .i64 m.need] 25).cell
  have H := Lib.hid (modelV_any m _ (h.later b1) hls)
  cases q : mdlB m.v with
  | false =>
    have Hv : Hid (mdlE m.v = 60) := Lib.hid (by unfold mdlE; rw [q]; rfl)
    rw [q] at H
    clear h hls q
    generalize mdlE m.v = V at *
    go_enter Try.func11, Try.ntmps11
    go_wp2_with (go_at_call 24; (with_reducible refine (H.out).mono ?_); rintro e w5 ⟨rfl, h5⟩)
    go_ret
    exact ⟨by rw [Hv.out]; rfl, b1.trans (h5.mono b1.size)⟩
  | true =>
    have Hv : Hid (mdlE m.v = 0) := Lib.hid (by unfold mdlE; rw [q]; rfl)
    rw [q] at H
    clear h hls q
    generalize mdlE m.v = V at *
    go_enter Try.func11, Try.ntmps11
    go_wp2_with (go_at_call 24; (with_reducible refine (H.out).mono ?_); rintro e w5 ⟨rfl, h5⟩)
    go_ret
    exact ⟨by rw [Hv.out]; rfl, b1.trans (h5.mono b1.size)⟩
end Go.Proofs.Ytijhbcmmoagdmaa

namespace Go.Proofs.Ytijhbcmmoagdmaa
open Go.RowKit Go.Maps

set_option maxRecDepth 100000 in
set_option maxHeartbeats 8000000 in
theorem check6_all (traits need : Int) (cl : List CrdD) (tl : List TreD) (C T : Option Addr) (c t : Nat) (w : World) (h : MdlAt w w.heap.size ⟨traits, cl, C, c, tl, T, t, need⟩) (hls : MdlLe ⟨traits, cl, C, c, tl, T, t, need⟩) :
    Calls Try.prog 12 #[.agg #[.int .i64 traits, .slice C cl.length c, .slice T tl.length t, .int .i64 need]] w fun e w' => e = .returned (.int .i64 (mdlE ⟨traits, cl.map CrdD.v, tl.map TreD.v, need⟩)) ∧ Below w.heap.size w w' := by
  have b1 := (Below.refl w.heap.size w).alloc (Nat.le_refl _) (.cells #[.int .i64 traits, .slice C cl.length c, .slice T tl.length t, .int .i64 need] 25)
  have k1 := Blk.new w #[.int .i64 traits, .slice C cl.length c, .slice T tl.length t, .int .i64 need] 25
  have g1 := k1.lt
  have k1c := k1.cell
  have HW := Lib.hid (fun W => within6_any traits 1 5 W)
  have HP := Lib.hid (fun W => points6_any need W)
  have hnl : cl.length ≤ 6 ∧ tl.length ≤ 6 := ⟨hls.cards, hls.trees⟩
  have HD : Hid (mdlE ⟨traits, cl.map CrdD.v, tl.map TreD.v, need⟩ = if (inN traits 1 5 && ptB need && decide (cl.length ≤ 2) && decide (tl.length ≤ 2) && (cl.map CrdD.v).all (crdB traits) && (tl.map TreD.v).all (treB traits)) = true then 0 else 60) := Lib.hid (by unfold mdlE mdlB; simp only [List.length_map])
  generalize mdlE ⟨traits, cl.map CrdD.v, tl.map TreD.v, need⟩ = V at *
  by_cases hc0 : inN traits 1 5 = true
  · rw [hc0] at HW
    by_cases hc1 : ptB need = true
    · rw [hc1] at HP
      by_cases hc2 : cl.length ≤ 2
      · have n2 : ¬ (2 : Int) < (cl.length : Int) := by omega
        by_cases hc3 : tl.length ≤ 2
        · have n3 : ¬ (2 : Int) < (tl.length : Int) := by omega
          have HE : Hid (V = if (cl.map CrdD.v).all (crdB traits) && (tl.map TreD.v).all (treB traits) then 0 else 60) := Lib.hid (by rw [HD.out, hc0, hc1, decide_eq_true (by omega : cl.length ≤ 2), decide_eq_true (by omega : tl.length ≤ 2)]; simp)
          have ht5 := inN_iff.1 hc0
          clear HD
          go_enter Try.func12, Try.ntmps12
          go_wp2_with (first
            | (go_at_call 25; (with_reducible refine (HW.out _).mono ?_); rintro e w1 ⟨rfl, rfl⟩)
            | (go_at_call 26; (with_reducible refine (HP.out _).mono ?_); rintro e w1 ⟨rfl, rfl⟩))
          have h1 := h.later b1
          generalize hW1 : w.alloc (.cells #[.int .i64 traits, .slice C cl.length c, .slice T tl.length t, .int .i64 need] 25) = W1 at *
          clear hW1 k1c h HW HP
          go_loopw [3] (fun ii wr => ∃ i : Nat, i ≤ cl.length ∧ ii = .int .i64 i ∧ Hid ((cl.take i).all (fun y => crdB traits y.v) = true ∧ Below W1.heap.size W1 wr)) (fun ii _ => cl.length - (vInt ii).toNat)
          case atStart => exact ⟨0, Nat.zero_le _, rfl, Lib.hid ⟨by simp, Below.refl _ _⟩⟩
          case round =>
            obtain ⟨i, hi, rfl, hR⟩ := hrel
            obtain ⟨hS, hB⟩ := hR.out
            have k2 := k1.below hB g1
            have b2 := b1.trans (hB.mono b1.size)
            have k2c := k2.cell
            by_cases hlt : i < cl.length
            · have hil : (i : Int) < (cl.length : Int) := by omega
              have h2 := (h1.later hB).cards
              obtain ⟨b, off, rfl, hb, c0, c1, c2⟩ := crds_at h2.row hlt
              have hmem := List.getElem_mem hlt
              have GC : Hid (∀ x : After wr.heap.size wr, Calls Try.prog 27 #[.agg #[.int .i64 cl[i].weight, .int .i64 cl[i].base, .slice cl[i].S cl[i].scales.length cl[i].s], .int .i64 traits] x.val fun e w' => e = .returned (.bool (crdB traits cl[i].v)) ∧ Below x.val.heap.size x.val w') := Lib.hid (fun x => card6_any cl[i] traits x.val ((h2.each _ hmem).later x.property) (hls.scales _ hmem) (hls.scl _ hmem))
              have k2a := After.cells (B := wr.heap.size) k2.cell k2.lt
              have d0 := After.cell (B := wr.heap.size) c0 hb
              have d1 := After.cell (B := wr.heap.size) c1 hb
              have d2 := After.cell (B := wr.heap.size) c2 hb
              cases hv : crdB traits cl[i].v with
              | false =>
                have Hv : Hid (V = 60) := Lib.hid (by rw [HE.out, all_stop (l := cl.map CrdD.v) (i := i) (by simpa using hlt) (by simpa using hv)]; simp)
                rw [hv] at GC
                clear hS hR h2 h1 HE hv hmem c0 c1 c2 hls
                generalize cl[i] = y at *
                go_upto_region 6 with fail
                refine wp_region_class_lit (C := fun w' => ∃ z : After wr.heap.size wr, w' = z.val) (by kernel_rfl) (by kernel_rfl) ⟨⟨_, (Below.refl _ _).drew⟩, rfl⟩ ?_
                repeat (go_big_quiet_step ((first
                  | (go_at_call 27; with_reducible exact after_of (Nat.le_refl _) _ (GC.out _)))))
                refine wpQuiet_nil ?_
                intro wq hw'
                obtain ⟨⟨wz, hz⟩, hw''⟩ := hw'
                dsimp only at hw''
                subst hw''
                go_wp2_with fail
                go_ret
                exact ⟨by rw [Hv.out]; rfl, b2.trans (hz.mono b2.size)⟩
              | true =>
                have HJ : Hid ((cl.take (i + 1)).all (fun y => crdB traits y.v) = true) := Lib.hid (all_next (p := fun y : CrdD => crdB traits y.v) hlt hS hv)
                rw [hv] at GC
                clear hS hR h2 hv hmem c0 c1 c2
                generalize cl[i] = y at *
                go_upto_region 6 with fail
                refine wp_region_class_lit (C := fun w' => ∃ z : After wr.heap.size wr, w' = z.val) (by kernel_rfl) (by kernel_rfl) ⟨⟨_, (Below.refl _ _).drew⟩, rfl⟩ ?_
                repeat (go_big_quiet_step ((first
                  | (go_at_call 27; with_reducible exact after_of (Nat.le_refl _) _ (GC.out _)))))
                refine wpQuiet_nil ?_
                intro wq hw'
                obtain ⟨⟨wz, hz⟩, hw''⟩ := hw'
                dsimp only at hw''
                subst hw''
                go_wp2_with fail
                go_roundw
                case rel => exact ⟨i + 1, by omega, by go_num, Lib.hid ⟨HJ.out, hB.trans (hz.mono hB.size)⟩⟩
                case measure => simp [vInt]; omega
            · have hil : ¬ (i : Int) < (cl.length : Int) := by omega
              obtain rfl : i = cl.length := by omega
              rw [List.take_length] at hS
              have HE2 : Hid (V = if (tl.map TreD.v).all (treB traits) then 0 else 60) := Lib.hid (by
                have e : (cl.map CrdD.v).all (crdB traits) = true := by rw [List.all_map]; exact hS
                rw [HE.out, e, Bool.true_and])
              have h2 := h1.later hB
              clear hR hS HE h1
              go_wp2_with fail
              clear k2c
              generalize wr = W2 at *
              go_loopw [4] (fun ii wr => ∃ i : Nat, i ≤ tl.length ∧ ii = .int .i64 i ∧ Hid ((tl.take i).all (fun y => treB traits y.v) = true ∧ Below W2.heap.size W2 wr)) (fun ii _ => tl.length - (vInt ii).toNat)
              case atStart => exact ⟨0, Nat.zero_le _, rfl, Lib.hid ⟨by simp, Below.refl _ _⟩⟩
              case round =>
                obtain ⟨i, hi, rfl, hR⟩ := hrel
                obtain ⟨hS, hB3⟩ := hR.out
                have k3 := k2.below hB3 k2.lt
                have b3 := b2.trans (hB3.mono b2.size)
                have k3c := k3.cell
                by_cases hlt : i < tl.length
                · have hil : (i : Int) < (tl.length : Int) := by omega
                  have h3 := (h2.later hB3).trees
                  obtain ⟨b, off, rfl, hb, c0, c1⟩ := tres_at h3.row hlt
                  have hmem := List.getElem_mem hlt
                  have GC : Hid (∀ x : After wr.heap.size wr, Calls Try.prog 28 #[.agg #[.int .i64 tl[i].v.weight, .slice tl[i].T tl[i].v.nodes.length tl[i].t], .int .i64 traits] x.val fun e w' => e = .returned (.bool (treB traits tl[i].v)) ∧ Below x.val.heap.size x.val w') := Lib.hid (fun x => tree6_any tl[i] traits x.val ((h3.each _ hmem).later x.property) (hls.nodes _ hmem) ht5)
                  have k3a := After.cells (B := wr.heap.size) k3.cell k3.lt
                  have d0 := After.cell (B := wr.heap.size) c0 hb
                  have d1 := After.cell (B := wr.heap.size) c1 hb
                  cases hv : treB traits tl[i].v with
                  | false =>
                    have Hv : Hid (V = 60) := Lib.hid (by rw [HE2.out, all_stop (l := tl.map TreD.v) (i := i) (by simpa using hlt) (by simpa using hv)]; simp)
                    rw [hv] at GC
                    clear hS hR h3 h2 HE2 hv hmem c0 c1 hls
                    generalize tl[i] = y at *
                    go_upto_region 11 with fail
                    refine wp_region_class_lit (C := fun w' => ∃ z : After wr.heap.size wr, w' = z.val) (by kernel_rfl) (by kernel_rfl) ⟨⟨_, (Below.refl _ _).drew⟩, rfl⟩ ?_
                    repeat (go_big_quiet_step ((first
                      | (go_at_call 28; with_reducible exact after_of (Nat.le_refl _) _ (GC.out _)))))
                    refine wpQuiet_nil ?_
                    intro wq hw'
                    obtain ⟨⟨wz, hz⟩, hw''⟩ := hw'
                    dsimp only at hw''
                    subst hw''
                    go_wp2_with fail
                    go_ret
                    exact ⟨by rw [Hv.out]; rfl, b3.trans (hz.mono b3.size)⟩
                  | true =>
                    have HJ : Hid ((tl.take (i + 1)).all (fun y => treB traits y.v) = true) := Lib.hid (all_next (p := fun y : TreD => treB traits y.v) hlt hS hv)
                    rw [hv] at GC
                    clear hS hR h3 hv hmem c0 c1
                    generalize tl[i] = y at *
                    go_upto_region 11 with fail
                    refine wp_region_class_lit (C := fun w' => ∃ z : After wr.heap.size wr, w' = z.val) (by kernel_rfl) (by kernel_rfl) ⟨⟨_, (Below.refl _ _).drew⟩, rfl⟩ ?_
                    repeat (go_big_quiet_step ((first
                      | (go_at_call 28; with_reducible exact after_of (Nat.le_refl _) _ (GC.out _)))))
                    refine wpQuiet_nil ?_
                    intro wq hw'
                    obtain ⟨⟨wz, hz⟩, hw''⟩ := hw'
                    dsimp only at hw''
                    subst hw''
                    go_wp2_with fail
                    go_roundw
                    case rel => exact ⟨i + 1, by omega, by go_num, Lib.hid ⟨HJ.out, hB3.trans (hz.mono hB3.size)⟩⟩
                    case measure => simp [vInt]; omega
                · have hil : ¬ (i : Int) < (tl.length : Int) := by omega
                  obtain rfl : i = tl.length := by omega
                  rw [List.take_length] at hS
                  have Hv : Hid (V = 0) := Lib.hid (by
                    have e : (tl.map TreD.v).all (treB traits) = true := by rw [List.all_map]; exact hS
                    rw [HE2.out, e]; rfl)
                  clear hR hS
                  go_wp2_with fail
                  go_ret
                  exact ⟨by rw [Hv.out]; rfl, b3⟩
        · have n3 : (2 : Int) < (tl.length : Int) := by omega
          have Hv : Hid (V = 60) := Lib.hid (by rw [HD.out, decide_eq_false (by omega : ¬ tl.length ≤ 2)]; simp)
          clear HD h hls hnl
          go_enter Try.func12, Try.ntmps12
          go_wp2_with (first
            | (go_at_call 25; (with_reducible refine (HW.out _).mono ?_); rintro e w1 ⟨rfl, rfl⟩)
            | (go_at_call 26; (with_reducible refine (HP.out _).mono ?_); rintro e w1 ⟨rfl, rfl⟩))
          all_goals (try (exfalso; omega))
          go_ret
          exact ⟨by rw [Hv.out]; rfl, b1⟩
      · have n2 : (2 : Int) < (cl.length : Int) := by omega
        have Hv : Hid (V = 60) := Lib.hid (by rw [HD.out, decide_eq_false (by omega : ¬ cl.length ≤ 2)]; simp)
        clear HD h hls hnl
        go_enter Try.func12, Try.ntmps12
        go_wp2_with (first
          | (go_at_call 25; (with_reducible refine (HW.out _).mono ?_); rintro e w1 ⟨rfl, rfl⟩)
          | (go_at_call 26; (with_reducible refine (HP.out _).mono ?_); rintro e w1 ⟨rfl, rfl⟩))
        all_goals (try (exfalso; omega))
        go_ret
        exact ⟨by rw [Hv.out]; rfl, b1⟩
    · have hb1 : ptB need = false := by simpa using hc1
      rw [hb1] at HP
      have Hv : Hid (V = 60) := Lib.hid (by rw [HD.out, hb1]; simp)
      clear HD h hls hnl
      go_enter Try.func12, Try.ntmps12
      go_wp2_with (first
        | (go_at_call 25; (with_reducible refine (HW.out _).mono ?_); rintro e w1 ⟨rfl, rfl⟩)
        | (go_at_call 26; (with_reducible refine (HP.out _).mono ?_); rintro e w1 ⟨rfl, rfl⟩))
      all_goals (try (exfalso; omega))
      go_ret
      exact ⟨by rw [Hv.out]; rfl, b1⟩
  · have hb0 : inN traits 1 5 = false := by simpa using hc0
    rw [hb0] at HW
    have Hv : Hid (V = 60) := Lib.hid (by rw [HD.out, hb0]; simp)
    clear HD h hls hnl
    go_enter Try.func12, Try.ntmps12
    go_wp2_with (first
      | (go_at_call 25; (with_reducible refine (HW.out _).mono ?_); rintro e w1 ⟨rfl, rfl⟩)
      | (go_at_call 26; (with_reducible refine (HP.out _).mono ?_); rintro e w1 ⟨rfl, rfl⟩))
    all_goals (try (exfalso; omega))
    go_ret
    exact ⟨by rw [Hv.out]; rfl, b1⟩
theorem check6_any (m : MdlD) (w : World) (h : MdlAt w w.heap.size m) (hls : MdlLe m) :
    Calls Try.prog 12 #[.agg #[.int .i64 m.traits, .slice m.C m.cards.length m.c, .slice m.T m.trees.length m.t, .int .i64 m.need]] w fun e w' => e = .returned (.int .i64 (mdlE m.v)) ∧ Below w.heap.size w w' := check6_all m.traits m.need m.cards m.trees m.C m.T m.c m.t w h hls

set_option maxRecDepth 100000 in
set_option maxHeartbeats 4000000 in
theorem values6_any (traits : Int) (X1 X2 X3 : Value) (x : List Int) (A : Option Addr) (a : Nat) (w : World) (h : IntsAt w w.heap.size A x) (hl : x.length ≤ 10) :
    Calls Try.prog 20 #[.agg #[.int .i64 traits, X1, X2, X3], .slice A x.length a] w fun e w' => e = .returned (.bool (valsB traits x)) ∧ Below w.heap.size w w' := by
  have b1 := (Below.refl w.heap.size w).alloc (Nat.le_refl _) (.cells #[.int .i64 traits, X1, X2, X3] 25)
  have k1 := Blk.new w #[.int .i64 traits, X1, X2, X3] 25
  have g1 := k1.lt
  have k1c := k1.cell
  have HD : Hid (valsB traits x = (decide ((x.length : Int) = traits) && x.all valB)) := Lib.hid rfl
  generalize valsB traits x = V at *
  by_cases q : (x.length : Int) = traits
  · have HE : Hid (V = x.all valB) := Lib.hid (by rw [HD.out, decide_eq_true q]; simp)
    subst q
    clear HD
    go_enter Try.func20, Try.ntmps20
    go_wp2_with fail
    have h1 := h.later b1
    generalize hW1 : w.alloc (.cells #[.int .i64 x.length, X1, X2, X3] 25) = W1 at *
    clear hW1 k1c h
    go_loopw [5] (fun ii wr => ∃ i : Nat, i ≤ x.length ∧ ii = .int .i64 i ∧ Hid ((x.take i).all valB = true ∧ Below W1.heap.size W1 wr)) (fun ii _ => x.length - (vInt ii).toNat)
    case atStart => exact ⟨0, Nat.zero_le _, rfl, Lib.hid ⟨by simp, Below.refl _ _⟩⟩
    case round =>
      obtain ⟨i, hi, rfl, hR⟩ := hrel
      obtain ⟨hS, hB⟩ := hR.out
      have b2 := b1.trans (hB.mono b1.size)
      by_cases hlt : i < x.length
      · have hil : (i : Int) < (x.length : Int) := by omega
        obtain ⟨b, off, rfl, hb, c0⟩ := ints_at (h1.later hB) hlt
        have HV := Lib.hid (within6_any x[i] (-1) 1000000 wr)
        cases hv : inN x[i] (-1) 1000000 with
        | false =>
          have Hv : Hid (V = false) := Lib.hid (by rw [HE.out]; exact all_stop hlt hv)
          rw [hv] at HV
          clear hS hR h1 HE hv
          generalize x[i] = y at *
          go_wp2_with (go_at_call 25; (with_reducible refine (HV.out).mono ?_); rintro e w1 ⟨rfl, rfl⟩)
          go_ret
          exact ⟨by rw [Hv.out]; rfl, b2⟩
        | true =>
          have HJ : Hid ((x.take (i + 1)).all valB = true) := Lib.hid (all_next hlt hS hv)
          rw [hv] at HV
          clear hS hR hv
          generalize x[i] = y at *
          go_wp2_with (go_at_call 25; (with_reducible refine (HV.out).mono ?_); rintro e w1 ⟨rfl, rfl⟩)
          go_roundw
          case rel => exact ⟨i + 1, by omega, by go_num, Lib.hid ⟨HJ.out, hB⟩⟩
          case measure => simp [vInt]; omega
      · have hil : ¬ (i : Int) < (x.length : Int) := by omega
        obtain rfl : i = x.length := by omega
        rw [List.take_length] at hS
        have Hv : Hid (V = true) := Lib.hid (by rw [HE.out, hS])
        clear hR hS
        go_wp2_with fail
        go_ret
        exact ⟨by rw [Hv.out]; rfl, b2⟩
  · have q' : ((x.length : Int) != traits) = true := by simpa using q
    have Hv : Hid (V = false) := Lib.hid (by rw [HD.out, decide_eq_false q]; rfl)
    clear h HD q
    go_enter Try.func20, Try.ntmps20
    go_wp2_with fail
    go_ret
    exact ⟨by rw [Hv.out]; rfl, b1⟩
end Go.Proofs.Ytijhbcmmoagdmaa

namespace Go.Proofs.Ytijhbcmmoagdmaa
open Go.RowKit Go.Maps

theorem cntLe_snoc (l : List Int) (c v : Int) : cntLe (l ++ [c]) v = cntLe l v + (if c ≤ v then 1 else 0) := by
  unfold cntLe
  rw [List.filter_append, List.length_append]
  by_cases h : c ≤ v <;> simp [h]

set_option maxRecDepth 100000 in
set_option maxHeartbeats 4000000 in
theorem onScale6_all (v : Scl) (A B : Option Addr) (a bb : Nat) (x : Int) (w : World) (h : IntsAt w w.heap.size A v.cuts) (hp : IntsAt w w.heap.size B v.pts) (hv : sclB v = true) :
    Calls Try.prog 56 #[.agg #[.slice A v.cuts.length a, .slice B v.pts.length bb, .int .i64 v.non], .int .i64 x] w fun e w' => e = .returned (.int .i64 (onScl v x)) ∧ Below w.heap.size w w' := by
  have b1 := (Below.refl w.heap.size w).alloc (Nat.le_refl _) (.cells #[.slice A v.cuts.length a, .slice B v.pts.length bb, .int .i64 v.non] 55)
  have k1 := Blk.new w #[.slice A v.cuts.length a, .slice B v.pts.length bb, .int .i64 v.non] 55
  have k1c := k1.cell
  obtain ⟨l1, l2e, _, _, _⟩ := sclB_iff.1 hv
  have l2 : v.cuts.length < v.pts.length := by omega
  clear l2e
  by_cases hx : x = -1
  · have Hv : Hid (onScl v x = v.non) := Lib.hid (by unfold onScl; rw [if_pos hx])
    have e1 : (x == -1) = true := by simp [hx]
    have Hx := Lib.hid hx
    clear h hp hv hx
    go_enter Try.func56, Try.ntmps56
    go_wp2_with fail
    go_ret
    exact ⟨by rw [Hv.out]; rfl, b1⟩
  · have HV : Hid (onScl v x = v.pts.getD (cntLe v.cuts x) 0) := Lib.hid (by unfold onScl; rw [if_neg hx])
    have e1 : (x == -1) = false := by simpa using hx
    have h1 := h.later b1
    have h1p := hp.later b1
    clear hx hv h hp
    go_enter Try.func56, Try.ntmps56
    go_wp2_with fail
    generalize hW1 : w.alloc (.cells #[.slice A v.cuts.length a, .slice B v.pts.length bb, .int .i64 v.non] 55) = W1 at *
    clear hW1 k1c
    go_loopw [5, 6] (fun nn ii wr => ∃ i n : Nat, i ≤ v.cuts.length ∧ n ≤ i ∧ nn = .int .i64 n ∧ ii = .int .i64 i ∧ Hid (cntLe (v.cuts.take i) x = n) ∧ W1 = wr) (fun _ ii _ => v.cuts.length - (vInt ii).toNat)
    case atStart => exact ⟨0, 0, Nat.zero_le _, Nat.le_refl _, rfl, rfl, Lib.hid rfl, rfl⟩
    case round =>
      obtain ⟨i, n, hi, hni, rfl, rfl, hN, rfl⟩ := hrel
      have k1c := k1.cell
      by_cases hlt : i < v.cuts.length
      · have hil : (i : Int) < (v.cuts.length : Int) := by omega
        obtain ⟨b, off, rfl, hb, c0⟩ := ints_at h1 hlt
        have HT : Hid (cntLe (v.cuts.take (i + 1)) x = n + (if v.cuts[i] ≤ x then 1 else 0)) := Lib.hid (by rw [List.take_succ_eq_append_getElem hlt, cntLe_snoc, hN.out])
        generalize v.cuts[i] = y at *
        by_cases hy : y ≤ x
        · have HJ : Hid (cntLe (v.cuts.take (i + 1)) x = n + 1) := Lib.hid (by rw [HT.out, if_pos hy])
          clear HT hN
          go_wp2_with fail
          go_roundw
          case rel => exact ⟨i + 1, n + 1, by omega, by omega, by go_num, by go_num, HJ, by first | rfl | trivial⟩
          case measure => simp [vInt]; omega
        · have HJ : Hid (cntLe (v.cuts.take (i + 1)) x = n) := Lib.hid (by rw [HT.out, if_neg hy]; rfl)
          clear HT hN
          go_wp2_with fail
          go_roundw
          case rel => exact ⟨i + 1, n, by omega, by omega, rfl, by go_num, HJ, by first | rfl | trivial⟩
          case measure => simp [vInt]; omega
      · have hil : ¬ (i : Int) < (v.cuts.length : Int) := by omega
        obtain rfl : i = v.cuts.length := by omega
        have hn := hN.out
        rw [List.take_length] at hn
        have hnl : n < v.pts.length := by omega
        obtain ⟨b, off, rfl, hb, c0⟩ := ints_at h1p hnl
        have Hv : Hid (onScl v x = v.pts[n]) := Lib.hid (by rw [HV.out, hn, getD_lt _ _ hnl])
        have hnl2 : (n : Int) < (v.pts.length : Int) := by omega
        clear hN hn HV
        generalize v.pts[n] = y at *
        go_wp2_with fail
        go_ret
        exact ⟨by rw [Hv.out]; rfl, b1⟩
theorem onScale6_any (y : SclD) (x : Int) (w : World) (h : SclAt w w.heap.size y) (hv : sclB y.v = true) :
    Calls Try.prog 56 #[.agg #[.slice y.A y.v.cuts.length y.a, .slice y.B y.v.pts.length y.b, .int .i64 y.v.non], .int .i64 x] w fun e w' => e = .returned (.int .i64 (onScl y.v x)) ∧ Below w.heap.size w w' := onScale6_all y.v y.A y.B y.a y.b x w h.cuts h.pts hv

set_option maxRecDepth 100000 in
set_option maxHeartbeats 4000000 in
theorem onCard6_all (wt base : Int) (l : List SclD) (S : Option Addr) (s : Nat) (x : List Int) (A : Option Addr) (a : Nat) (w : World) (h : SclsAt w w.heap.size S l) (hx : IntsAt w w.heap.size A x) (hv : ∀ y ∈ l, sclB y.v = true) (hb : ptB base = true) (hl : l.length ≤ 10) (hlx : l.length = x.length) :
    Calls Try.prog 37 #[.agg #[.int .i64 wt, .int .i64 base, .slice S l.length s], .slice A x.length a] w fun e w' => e = .returned (.int .i64 (onCrd ⟨wt, base, l.map SclD.v⟩ x)) ∧ Below w.heap.size w w' := by
  have b1 := (Below.refl w.heap.size w).alloc (Nat.le_refl _) (.cells #[.int .i64 wt, .int .i64 base, .slice S l.length s] 53)
  have k1 := Blk.new w #[.int .i64 wt, .int .i64 base, .slice S l.length s] 53
  have g1 := k1.lt
  have k1c := k1.cell
  have HV : Hid (onCrd ⟨wt, base, l.map SclD.v⟩ x = base + sclsUp (l.map SclD.v) x l.length) := Lib.hid (by unfold onCrd; simp)
  have HS : Hid (∀ k, k < l.length → sclsUp (l.map SclD.v) x (k + 1) = sclsUp (l.map SclD.v) x k + onScl ((l[k]?.getD default).v) (x.getD k 0)) := Lib.hid (fun k hk => by
    show sclsUp (l.map SclD.v) x k + onScl ((l.map SclD.v).getD k default) (x.getD k 0) = _
    rw [getD_lt _ _ (by simpa using hk)]
    simp [hk])
  have hsv : ∀ s ∈ l.map SclD.v, sclB s = true := fun s hs => by
    obtain ⟨y, hy, rfl⟩ := List.mem_map.1 hs
    exact hv y hy
  have HB := Lib.hid (fun k (hk : k ≤ l.length) => sclsUp_bound hsv x k (by simpa using hk))
  have hbb := ptB_iff.1 hb
  have h1 := h.later b1
  have h1x := hx.later b1
  have hlx1 : l.length ≤ x.length := by omega
  have hv2 := hv
  clear h hx hsv hb hlx
  generalize onCrd ⟨wt, base, l.map SclD.v⟩ x = V at *
  go_enter Try.func37, Try.ntmps37
  go_wp2_with fail
  generalize hW1 : w.alloc (.cells #[.int .i64 wt, .int .i64 base, .slice S l.length s] 53) = W1 at *
  clear hW1 k1c
  go_loopw [5, 6] (fun zz ii wr => ∃ (i : Nat) (z : Int), i ≤ l.length ∧ zz = .int .i64 z ∧ ii = .int .i64 i ∧ Hid (z = base + sclsUp (l.map SclD.v) x i) ∧ Hid (Below W1.heap.size W1 wr)) (fun _ ii _ => l.length - (vInt ii).toNat)
  case atStart => exact ⟨0, base, Nat.zero_le _, rfl, rfl, Lib.hid (by simp [sclsUp]), Lib.hid (Below.refl _ _)⟩
  case round =>
    obtain ⟨i, z, hi, rfl, rfl, hZ, hBh⟩ := hrel
    have hB := hBh.out
    have k2 := k1.below hB g1
    have b2 := b1.trans (hB.mono b1.size)
    have k2c := k2.cell
    by_cases hlt : i < l.length
    · have hil : (i : Int) < (l.length : Int) := by omega
      have hil2 : (i : Int) < (x.length : Int) := by omega
      have h2 := h1.later hB
      obtain ⟨b, off, rfl, hb, c0, c1, c2⟩ := scls_at h2.row hlt
      obtain ⟨bx, offx, rfl, hbx, cx⟩ := ints_at (h1x.later hB) (show i < x.length by omega)
      have hmem := List.getElem_mem hlt
      have hbd := HB.out i (by omega)
      have hbo := onScl_bound (hv2 _ hmem) x[i]
      have HN : Hid (sclsUp (l.map SclD.v) x (i + 1) = sclsUp (l.map SclD.v) x i + onScl l[i].v x[i]) := Lib.hid (by rw [HS.out i hlt, getD_lt x 0 (by omega)]; simp [hlt])
      have hzv := hZ.out
      have hwr : IntKind.i64.wrap (z + onScl l[i].v x[i]) = z + onScl l[i].v x[i] := IntWalk.i64_in _ (by omega)
      have GC : Hid (∀ q : After wr.heap.size wr, Calls Try.prog 56 #[.agg #[.slice l[i].A l[i].v.cuts.length l[i].a, .slice l[i].B l[i].v.pts.length l[i].b, .int .i64 l[i].v.non], .int .i64 x[i]] q.val fun e w' => e = .returned (.int .i64 (onScl l[i].v x[i])) ∧ Below q.val.heap.size q.val w') := Lib.hid (fun q => onScale6_any l[i] x[i] q.val ((h2.each _ hmem).later q.property) (hv2 _ hmem))
      have HJ : Hid (z + onScl l[i].v x[i] = base + sclsUp (l.map SclD.v) x (i + 1)) := Lib.hid (by rw [HN.out, hzv]; omega)
      have k2a := After.cells (B := wr.heap.size) k2.cell k2.lt
      have d0 := After.cell (B := wr.heap.size) c0 hb
      have d1 := After.cell (B := wr.heap.size) c1 hb
      have d2 := After.cell (B := wr.heap.size) c2 hb
      have dx := After.cell (B := wr.heap.size) cx hbx
      clear hbd hbo HN hzv hZ hmem h2 c0 c1 c2 cx hBh
      generalize onScl l[i].v x[i] = o at *
      generalize l[i] = y at *
      generalize x[i] = xv at *
      go_upto_region 5 with fail
      refine wp_region_class_lit (C := fun w' => ∃ z : After wr.heap.size wr, w' = z.val) (by kernel_rfl) (by kernel_rfl) ⟨⟨_, (Below.refl _ _).drew⟩, rfl⟩ ?_
      repeat (go_big_quiet_step ((first
        | (go_at_call 56; with_reducible exact after_of (Nat.le_refl _) _ (GC.out _)))))
      refine wpQuiet_nil ?_
      intro wq hw'
      obtain ⟨⟨wz, hz⟩, hw''⟩ := hw'
      dsimp only at hw''
      subst hw''
      go_wp2_with fail
      go_roundw
      case rel => exact ⟨i + 1, z + o, by omega, rfl, by go_num, HJ, Lib.hid (hB.trans (hz.mono hB.size))⟩
      case measure => simp [vInt]; omega
    · have hil : ¬ (i : Int) < (l.length : Int) := by omega
      obtain rfl : i = l.length := by omega
      have Hv : Hid (V = z) := Lib.hid (by rw [HV.out, hZ.out])
      clear hZ hBh
      go_wp2_with fail
      go_ret
      exact ⟨by rw [Hv.out]; rfl, b2⟩
theorem onCard6_any (c : CrdD) (x : List Int) (A : Option Addr) (a : Nat) (w : World) (h : SclsAt w w.heap.size c.S c.scales) (hx : IntsAt w w.heap.size A x) (hv : crdB x.length c.v = true) (hl : x.length ≤ 10) :
    Calls Try.prog 37 #[.agg #[.int .i64 c.weight, .int .i64 c.base, .slice c.S c.scales.length c.s], .slice A x.length a] w fun e w' => e = .returned (.int .i64 (onCrd c.v x)) ∧ Below w.heap.size w w' := by
  unfold crdB at hv
  simp only [Bool.and_eq_true, decide_eq_true_eq, List.all_eq_true] at hv
  obtain ⟨⟨⟨_, h2⟩, h3⟩, h4⟩ := hv
  have e : c.scales.length = x.length := by
    have : (c.v.scales.length : Int) = x.length := h3
    simp only [CrdD.v, List.length_map] at this
    omega
  exact onCard6_all c.weight c.base c.scales c.S c.s x A a w h hx (fun y hy => h4 _ (List.mem_map_of_mem hy)) h2 (by omega) e

theorem treGo_leaf {l : List Nod} {x : List Int} {f a : Nat} (h : (l.getD a default).tr = -1) : treGo l x (f + 1) a = (l.getD a default).pts := by rw [treGo, if_pos h]
theorem treGo_node {l : List Nod} {x : List Int} {f a : Nat} (h : ¬ (l.getD a default).tr = -1) : treGo l x (f + 1) a = if x.getD (l.getD a default).tr.toNat 0 < (l.getD a default).cut then treGo l x f (l.getD a default).low.toNat else treGo l x f (l.getD a default).high.toNat := by rw [treGo, if_neg h]
/-- A node that is no leaf. -/
theorem nodB_inner {n : Nat} {traits : Int} {i : Nat} {x : Nod} (h : nodB n traits i x = true) (ht : ¬ x.tr = -1) : 0 ≤ x.tr ∧ x.tr < traits ∧ (i : Int) + 1 ≤ x.low ∧ x.low < n ∧ (i : Int) + 1 ≤ x.high ∧ x.high < n := by
  rw [nodB_node ht] at h
  simp only [Bool.and_eq_true, inN_iff] at h
  omega

set_option maxRecDepth 100000 in
set_option maxHeartbeats 4000000 in
theorem onTree6_all (wt : Int) (l : List Nod) (T : Option Addr) (t : Nat) (x : List Int) (A : Option Addr) (a : Nat) (w : World) (h : NodsAt w w.heap.size T l) (hx : IntsAt w w.heap.size A x) (hv : ∀ i, i < l.length → nodB l.length x.length i (l.getD i default) = true) (hl : 1 ≤ l.length) (hl2 : l.length ≤ 20) (hxl : x.length ≤ 10) :
    Calls Try.prog 38 #[.agg #[.int .i64 wt, .slice T l.length t], .slice A x.length a] w fun e w' => e = .returned (.int .i64 (onTre ⟨wt, l⟩ x)) ∧ Below w.heap.size w w' := by
  have b1 := (Below.refl w.heap.size w).alloc (Nat.le_refl _) (.cells #[.int .i64 wt, .slice T l.length t] 58)
  have k1 := Blk.new w #[.int .i64 wt, .slice T l.length t] 58
  have g1 := k1.lt
  have k1c := k1.cell
  have HV : Hid (onTre ⟨wt, l⟩ x = treGo l x l.length 0) := Lib.hid rfl
  have h1 := h.later b1
  have h1x := hx.later b1
  clear h hx
  generalize onTre ⟨wt, l⟩ x = V at *
  go_enter Try.func38, Try.ntmps38
  go_wp2_with fail
  generalize hW1 : w.alloc (.cells #[.int .i64 wt, .slice T l.length t] 58) = W1 at *
  clear hW1 k1c
  go_loopw [5] (fun ii wr => ∃ i : Nat, i < l.length ∧ ii = .int .i64 i ∧ Hid ((∃ f, treGo l x f i = V ∧ l.length ≤ i + f) ∧ Below W1.heap.size W1 wr)) (fun ii _ => l.length - (vInt ii).toNat)
  case atStart => exact ⟨0, by omega, rfl, Lib.hid ⟨⟨l.length, HV.out.symm, by omega⟩, Below.refl _ _⟩⟩
  case round =>
    obtain ⟨i, hlt, rfl, hR⟩ := hrel
    obtain ⟨⟨f0, hf, hfl⟩, hB⟩ := hR.out
    have k2 := k1.below hB g1
    have b2 := b1.trans (hB.mono b1.size)
    have k2c := k2.cell
    have hil : (i : Int) < (l.length : Int) := by omega
    obtain ⟨b, off, rfl, hb, c0, c1, c2, c3, c4⟩ := nods_at (h1.later hB) hlt
    have hnv := hv i hlt
    have hge := getD_lt l default hlt
    rw [hge] at hnv
    obtain ⟨f, rfl⟩ : ∃ f, f0 = f + 1 := ⟨f0 - 1, by omega⟩
    by_cases ht : l[i].tr = -1
    · have e1 : (l[i].tr != -1) = false := by simp [ht]
      have Hv : Hid (V = l[i].pts) := Lib.hid (by rw [← hf, treGo_leaf (by rw [hge]; exact ht), hge])
      clear hf hge hnv hR ht HV
      generalize l[i] = y at *
      go_wp2_with fail
      go_ret
      exact ⟨by rw [Hv.out]; rfl, b2⟩
    · have e1 : (l[i].tr != -1) = true := by simpa using ht
      obtain ⟨n1, n2, n3, n4, n5, n6⟩ := nodB_inner hnv ht
      have HF : Hid (V = if x.getD l[i].tr.toNat 0 < l[i].cut then treGo l x f l[i].low.toNat else treGo l x f l[i].high.toNat) := Lib.hid (by rw [← hf, treGo_node (by rw [hge]; exact ht), hge])
      clear hf hge hnv hR ht HV
      generalize l[i] = y at *
      obtain ⟨tr, cut, low, high, pts⟩ := y
      dsimp only at *
      obtain ⟨tn, rfl⟩ := Int.eq_ofNat_of_zero_le n1
      obtain ⟨ln, rfl⟩ := Int.eq_ofNat_of_zero_le (show 0 ≤ low by omega)
      obtain ⟨hn, rfl⟩ := Int.eq_ofNat_of_zero_le (show 0 ≤ high by omega)
      rw [Int.toNat_natCast, Int.toNat_natCast, Int.toNat_natCast] at HF
      have htx : tn < x.length := by omega
      obtain ⟨bx, offx, rfl, hbx, cx⟩ := ints_at (h1x.later hB) htx
      rw [getD_lt x 0 htx] at HF
      generalize x[tn] = xv at *
      have k3 := k2.alloc (.cells #[.int .i64 tn, .int .i64 cut, .int .i64 ln, .int .i64 hn, .int .i64 pts] 74)
      have kn := Blk.new wr #[.int .i64 tn, .int .i64 cut, .int .i64 ln, .int .i64 hn, .int .i64 pts] 74
      have b3 := b2.alloc b2.size (.cells #[.int .i64 tn, .int .i64 cut, .int .i64 ln, .int .i64 hn, .int .i64 pts] 74)
      have ba := (Below.refl wr.heap.size wr).alloc (Nat.le_refl _) (.cells #[.int .i64 tn, .int .i64 cut, .int .i64 ln, .int .i64 hn, .int .i64 pts] 74)
      have cx2 := (ba.cell (p := ⟨bx, offx + tn, none⟩) hbx).trans cx
      have hbx2 : bx < (wr.alloc (.cells #[.int .i64 tn, .int .i64 cut, .int .i64 ln, .int .i64 hn, .int .i64 pts] 74)).heap.size := Nat.lt_of_lt_of_le hbx ba.size
      have hB3 := hB.alloc hB.size (.cells #[.int .i64 tn, .int .i64 cut, .int .i64 ln, .int .i64 hn, .int .i64 pts] 74)
      have gk := k2.lt
      go_upto_region 4 with fail
      generalize hW3 : wr.alloc (.cells #[.int .i64 tn, .int .i64 cut, .int .i64 ln, .int .i64 hn, .int .i64 pts] 74) = W3 at *
      clear hW3 k2c c0 c1 c2 c3 c4
      have kna := After.cells (B := W3.heap.size) kn.cell kn.lt
      have dx := After.cell (B := W3.heap.size) cx2 hbx2
      have knc := kn.cell
      by_cases hlc : xv < cut
      · have HJ : Hid (treGo l x f ln = V) := Lib.hid (by rw [HF.out, if_pos hlc])
        clear HF
        refine wp_region_class_lit (C := fun w' => ∃ z : After W3.heap.size W3, w' = z.val) (by kernel_rfl) (by kernel_rfl) ⟨⟨_, (Below.refl _ _).drew⟩, rfl⟩ ?_
        repeat (go_big_quiet_step (fail))
        refine wpQuiet_nil ?_
        intro wq hw'
        obtain ⟨⟨wz, hz⟩, hw''⟩ := hw'
        dsimp only at hw''
        subst hw''
        have knq := (kn.below hz kn.lt).cell
        go_wp2_with fail
        go_roundw
        case rel => exact ⟨ln, by omega, rfl, Lib.hid ⟨⟨f, HJ.out, by omega⟩, hB3.trans (hz.mono hB3.size)⟩⟩
        case measure => simp [vInt]; omega
      · have HJ : Hid (treGo l x f hn = V) := Lib.hid (by rw [HF.out, if_neg hlc])
        clear HF
        refine wp_region_class_lit (C := fun w' => ∃ z : After W3.heap.size W3, w' = z.val) (by kernel_rfl) (by kernel_rfl) ⟨⟨_, (Below.refl _ _).drew⟩, rfl⟩ ?_
        repeat (go_big_quiet_step (fail))
        refine wpQuiet_nil ?_
        intro wq hw'
        obtain ⟨⟨wz, hz⟩, hw''⟩ := hw'
        dsimp only at hw''
        subst hw''
        have knq := (kn.below hz kn.lt).cell
        go_wp2_with fail
        go_roundw
        case rel => exact ⟨hn, by omega, rfl, Lib.hid ⟨⟨f, HJ.out, by omega⟩, hB3.trans (hz.mono hB3.size)⟩⟩
        case measure => simp [vInt]; omega
theorem onTree6_any (y : TreD) (x : List Int) (A : Option Addr) (a : Nat) (w : World) (h : NodsAt w w.heap.size y.T y.v.nodes) (hx : IntsAt w w.heap.size A x) (hv : treB x.length y.v = true) (hxl : x.length ≤ 10) :
    Calls Try.prog 38 #[.agg #[.int .i64 y.v.weight, .slice y.T y.v.nodes.length y.t], .slice A x.length a] w fun e w' => e = .returned (.int .i64 (onTre y.v x)) ∧ Below w.heap.size w w' := by
  unfold treB at hv
  simp only [Bool.and_eq_true, inN_iff, rangeB_iff] at hv
  exact onTree6_all y.v.weight y.v.nodes y.T y.t x A a w h hx hv.2 (by omega) (by omega) hxl
end Go.Proofs.Ytijhbcmmoagdmaa

namespace Go.Proofs.Ytijhbcmmoagdmaa
open Go.RowKit Go.Maps

set_option maxHeartbeats 1000000 in
theorem valV1_any (i v : Int) (w : World) :
    Calls Try.prog 55 #[.int .i64 i, .int .i64 v] w fun e w' => e = .returned (.bool (valB v)) ∧ Below w.heap.size w w' := by
  by_cases h : v = -1
  · have e1 : (v == -1) = true := by simp [h]
    have Hv : Hid (valB v = true) := Lib.hid (by rw [h]; decide)
    clear h
    go_enter Try.func55, Try.ntmps55
    go_wp2_with fail
    go_ret
    exact ⟨by rw [Hv.out]; rfl, Below.refl _ _⟩
  · have e1 : (v == -1) = false := by simpa using h
    have Hv : Hid (inN v 0 1000000 = valB v) := Lib.hid (by unfold valB; rw [Bool.eq_iff_iff, inN_iff, inN_iff]; omega)
    have H := Lib.hid (withinP_any v 0 1000000 w)
    rw [Hv.out] at H
    clear h Hv
    go_enter Try.func55, Try.ntmps55
    go_wp2_with (go_at_call 39; (with_reducible refine (H.out).mono ?_); rintro e w1 ⟨rfl, rfl⟩)
    go_ret
    exact ⟨rfl, Below.refl _ _⟩
set_option maxRecDepth 100000 in
set_option maxHeartbeats 4000000 in
theorem allVal_any (l : List Int) (A : Option Addr) (a : Nat) (P : Nat → Bool) (w : World) (h : IntsAt w w.heap.size A l) (hl : l.length ≤ 1000)
    (HG : Hid (∀ i (_ : i < l.length) W, Below w.heap.size w W → Calls Try.prog 55 #[.int .i64 i, .int .i64 l[i]] W fun e w' => e = .returned (.bool (P i)) ∧ Below W.heap.size W w')) :
    Calls Try.prog 54 #[.slice A l.length a, .func (.func 55) #[] #[]] w fun e w' => e = .returned (.bool (rangeB l.length P)) ∧ Below w.heap.size w w' := by
  have HE : Hid (rangeB l.length P = rangeB l.length P) := Lib.hid rfl
  generalize hV : rangeB l.length P = V at *
  have HV := Lib.hid hV
  clear hV HE
  go_enter Try.func54, Try.ntmps54
  go_wp2_with fail
  go_loopw [9] (fun ii wr => ∃ i : Nat, i ≤ l.length ∧ ii = .int .i64 i ∧ Hid ((∀ j, j < i → P j = true) ∧ Below w.heap.size w wr)) (fun ii _ => l.length - (vInt ii).toNat)
  case atStart => exact ⟨0, Nat.zero_le _, rfl, Lib.hid ⟨fun j hj => by omega, Below.refl _ _⟩⟩
  case round =>
    obtain ⟨i, hi, rfl, hR⟩ := hrel
    obtain ⟨hS, hB⟩ := hR.out
    by_cases hlt : i < l.length
    · have hil : (i : Int) < (l.length : Int) := by omega
      obtain ⟨b, off, rfl, hb, c0⟩ := ints_at (h.later hB) hlt
      have HGi := Lib.hid (HG.out i hlt wr hB)
      have hB1 : Below w.heap.size w wr := hB
      cases hv : P i with
      | false =>
        have Hv : Hid (V = false) := Lib.hid (by rw [← HV.out]; exact rangeB_stop hlt hv)
        rw [hv] at HGi
        clear hS hR HG hv h
        generalize l[i] = y at *
        go_wp2_with (go_at_call 55; (with_reducible refine (HGi.out).mono ?_); rintro e w5 ⟨rfl, h5⟩)
        go_ret
        exact ⟨by rw [Hv.out]; rfl, hB1.trans (h5.mono hB1.size)⟩
      | true =>
        have HJ : Hid (∀ j, j < i + 1 → P j = true) := Lib.hid (fun j hj => by
          rcases Nat.lt_or_ge j i with hj2 | hj2
          · exact hS j hj2
          · rw [show j = i by omega]; exact hv)
        rw [hv] at HGi
        clear hS hR hv
        generalize l[i] = y at *
        go_wp2_with (go_at_call 55; (with_reducible refine (HGi.out).mono ?_); rintro e w5 ⟨rfl, h5⟩)
        go_roundw
        case rel => exact ⟨i + 1, by omega, by go_num, Lib.hid ⟨HJ.out, hB1.trans (h5.mono hB1.size)⟩⟩
        case measure => simp [vInt]; omega
    · have hil : ¬ (i : Int) < (l.length : Int) := by omega
      obtain rfl : i = l.length := by omega
      have Hv : Hid (V = true) := Lib.hid (by rw [← HV.out]; exact rangeB_iff.2 hS)
      clear hS hR
      go_wp2_with fail
      go_ret
      exact ⟨by rw [Hv.out]; rfl, hB⟩


set_option maxHeartbeats 1000000 in
theorem valuesV_any (traits need : Int) (C T S : Option Addr) (cl c tl t n s : Nat) (x : List Int) (A : Option Addr) (a : Nat) (w : World) (h : IntsAt w w.heap.size A x) (hl : x.length ≤ 10) :
    Calls Try.prog 35 #[.agg #[.int .i64 traits, .slice C cl c, .slice T tl t, .int .i64 need, .slice S n s], .slice A x.length a] w fun e w' => e = .returned (.bool (valsB traits x)) ∧ Below w.heap.size w w' := by
  have b1 := (Below.refl w.heap.size w).alloc (Nat.le_refl _) (.cells #[.int .i64 traits, .slice C cl c, .slice T tl t, .int .i64 need, .slice S n s] 62)
  have k1c := (Blk.new w #[.int .i64 traits, .slice C cl c, .slice T tl t, .int .i64 need, .slice S n s] 62).cell
  have h1 := h.later b1
  have H := Lib.hid (fun W (hb : Below w.heap.size w W) => allVal_any x A a (fun i => valB (x.getD i 0)) W (h.later hb) (by omega) (Lib.hid (fun i hi W _ => by rw [getD_lt x 0 hi]; exact valV1_any i x[i] W)))
  rw [range_all x 0 valB] at H
  by_cases ht : (x.length : Int) = traits
  · have e1 : ((x.length : Int) == traits) = true := by simpa using ht
    have Hv : Hid (x.all valB = valsB traits x) := Lib.hid (by unfold valsB; rw [decide_eq_true ht]; simp)
    rw [Hv.out] at H
    clear ht Hv h h1
    go_enter Try.func35, Try.ntmps35
    go_wp2_with (go_at_call 54; (with_reducible refine (H.out _ (by first | exact b1 | exact Below.refl _ _)).mono ?_); rintro e w5 ⟨rfl, h5⟩)
    go_ret
    exact ⟨rfl, b1.trans (h5.mono b1.size)⟩
  · have e1 : ((x.length : Int) == traits) = false := by simpa using ht
    have Hv : Hid (valsB traits x = false) := Lib.hid (by unfold valsB; rw [decide_eq_false ht]; rfl)
    clear ht h h1 H
    go_enter Try.func35, Try.ntmps35
    go_wp2_with fail
    go_ret
    exact ⟨by rw [Hv.out]; rfl, b1⟩
set_option maxHeartbeats 1000000 in
theorem yes_any (traits need : Int) (C T S : Option Addr) (cl c tl t n s : Nat) (z : Int) (w : World) (hn : -1000000 ≤ need ∧ need ≤ 1000000) :
    Calls Try.prog 19 #[.agg #[.int .i64 traits, .slice C cl c, .slice T tl t, .int .i64 need, .slice S n s], .int .i64 z] w fun e w' => e = .returned (.bool (decide (1000 * need ≤ z))) ∧ Below w.heap.size w w' := by
  have b1 := (Below.refl w.heap.size w).alloc (Nat.le_refl _) (.cells #[.int .i64 traits, .slice C cl c, .slice T tl t, .int .i64 need, .slice S n s] 62)
  have k1c := (Blk.new w #[.int .i64 traits, .slice C cl c, .slice T tl t, .int .i64 need, .slice S n s] 62).cell
  have hw : IntKind.i64.wrap (need * 1000) = need * 1000 := IntWalk.i64_in _ (by omega)
  have Hv : Hid (decide (need * 1000 ≤ z) = decide (1000 * need ≤ z)) := Lib.hid (by rw [Int.mul_comm])
  go_enter Try.func19, Try.ntmps19
  go_wp2_with fail
  all_goals go_ret
  all_goals (refine ⟨ret_bool ?_, b1⟩)
  all_goals (rw [← Hv.out])
  all_goals (first | rfl | (symm; simp; omega) | (simp; omega))

theorem cutsB_mono {l : List Int} (h : cutsB l = true) {i j : Nat} (hij : i ≤ j) (hj : j < l.length) : l.getD i 0 ≤ l.getD j 0 := by
  induction j with
  | zero => rw [show i = 0 by omega]; exact Int.le_refl _
  | succ j ih =>
    rcases Nat.lt_or_ge i (j + 1) with h1 | h1
    · have h2 := ih (by omega) (by omega)
      have h3 := rangeB_iff.1 h (j + 1) hj
      rw [cutB, inN_iff, if_neg (by omega), Nat.add_sub_cancel] at h3
      omega
    · rw [show i = j + 1 by omega]; exact Int.le_refl _
theorem cntLe_at {l : List Int} {v : Int} {i : Nat} (hi : i ≤ l.length) (h1 : ∀ j, j < i → l.getD j 0 ≤ v) (h2 : ∀ j, i ≤ j → j < l.length → v < l.getD j 0) : cntLe l v = i := by
  have e : l = l.take i ++ l.drop i := (List.take_append_drop i l).symm
  have f1 : (l.take i).filter (fun c => decide (c ≤ v)) = l.take i := List.filter_eq_self.2 fun c hc => by
    obtain ⟨j, hj, rfl⟩ := List.getElem_of_mem hc
    have hj2 : j < i := by rw [List.length_take] at hj; omega
    have := h1 j hj2
    rw [getD_lt l 0 (by omega)] at this
    simpa using this
  have f2 : (l.drop i).filter (fun c => decide (c ≤ v)) = [] := List.filter_eq_nil_iff.2 fun c hc => by
    obtain ⟨j, hj, rfl⟩ := List.getElem_of_mem hc
    have hj2 : i + j < l.length := by rw [List.length_drop] at hj; omega
    have := h2 (i + j) (by omega) hj2
    rw [getD_lt l 0 hj2] at this
    simpa using this
  unfold cntLe
  rw [e, List.filter_append, f1, f2, List.append_nil, List.length_take]
  omega
set_option maxRecDepth 100000 in
set_option maxHeartbeats 4000000 in
theorem scaleP_all (v : Scl) (A B : Option Addr) (a bb : Nat) (k : Nat) (x : List Int) (X : Option Addr) (xc : Nat) (w : World) (h : IntsAt w w.heap.size A v.cuts) (hp : IntsAt w w.heap.size B v.pts) (hx : IntsAt w w.heap.size X x) (hv : sclB v = true) (hk : k < x.length) (_hxl : x.length ≤ 10) :
    Calls Try.prog 115 #[.agg #[.slice A v.cuts.length a, .slice B v.pts.length bb, .int .i64 v.non, .int .i64 k], .slice X x.length xc] w fun e w' => e = .returned (.int .i64 (onScl v (x.getD k 0))) ∧ Below w.heap.size w w' := by
  have b1 := (Below.refl w.heap.size w).alloc (Nat.le_refl _) (.cells #[.slice A v.cuts.length a, .slice B v.pts.length bb, .int .i64 v.non, .int .i64 k] 115)
  have k1 := Blk.new w #[.slice A v.cuts.length a, .slice B v.pts.length bb, .int .i64 v.non, .int .i64 k] 115
  have k1c := k1.cell
  obtain ⟨l1, l2e, _, hC, _⟩ := sclB_iff.1 hv
  have l2 : v.cuts.length < v.pts.length := by omega
  clear l2e
  obtain ⟨bx, offx, rfl, hbx, cx⟩ := ints_at (hx.later b1) hk
  have hki : (k : Int) < (x.length : Int) := by omega
  rw [getD_lt x 0 hk]
  have HV := Lib.hid (fun q => show x[k] = q → onScl v x[k] = onScl v q from fun e => by rw [e])
  generalize x[k] = xv at *
  by_cases hx1 : xv = -1
  · have Hv : Hid (onScl v xv = v.non) := Lib.hid (by unfold onScl; rw [if_pos hx1])
    have e1 : (xv == -1) = true := by simp [hx1]
    clear h hp hx hv hx1 HV hC
    go_enter Try.func115, Try.ntmps115
    go_wp2_with fail
    go_ret
    exact ⟨by rw [Hv.out]; rfl, b1⟩
  · have HV : Hid (onScl v xv = v.pts.getD (cntLe v.cuts xv) 0) := Lib.hid (by unfold onScl; rw [if_neg hx1])
    have e1 : (xv == -1) = false := by simpa using hx1
    have h1 := h.later b1
    have h1p := hp.later b1
    clear hx1 hv h hp hx
    generalize onScl v xv = V at *
    go_enter Try.func115, Try.ntmps115
    go_wp2_with fail
    generalize hW1 : w.alloc (.cells #[.slice A v.cuts.length a, .slice B v.pts.length bb, .int .i64 v.non, .int .i64 k] 115) = W1 at *
    clear hW1 k1c
    go_loopw [6] (fun ii wr => ∃ i : Nat, i ≤ v.cuts.length ∧ ii = .int .i64 i ∧ Hid (∀ j, j < i → v.cuts.getD j 0 ≤ xv) ∧ W1 = wr) (fun ii _ => v.cuts.length - (vInt ii).toNat)
    case atStart => exact ⟨0, Nat.zero_le _, rfl, Lib.hid (fun j hj => by omega), rfl⟩
    case round =>
      obtain ⟨i, hi, rfl, hN, rfl⟩ := hrel
      have k1c := k1.cell
      have HE : Hid ((∀ j, i ≤ j → j < v.cuts.length → xv < v.cuts.getD j 0) → V = v.pts.getD i 0) := Lib.hid (fun e => by rw [HV.out, cntLe_at hi hN.out e])
      have hip : i < v.pts.length := by omega
      obtain ⟨b, off, rfl, hb, c0⟩ := ints_at h1p hip
      have hip2 : (i : Int) < (v.pts.length : Int) := by omega
      rw [getD_lt v.pts 0 hip] at HE
      generalize v.pts[i] = pv at *
      by_cases hlt : i < v.cuts.length
      · have hil : (i : Int) < (v.cuts.length : Int) := by omega
        obtain ⟨b2, off2, rfl, hb2, c2⟩ := ints_at h1 hlt
        have hge := getD_lt v.cuts 0 hlt
        by_cases hy : v.cuts[i] ≤ xv
        · have HJ : Hid (∀ j, j < i + 1 → v.cuts.getD j 0 ≤ xv) := Lib.hid (fun j hj => by
            rcases Nat.lt_or_ge j i with h5 | h5
            · exact hN.out j h5
            · rw [show j = i by omega, hge]; exact hy)
          clear hN HE hge
          generalize v.cuts[i] = y at *
          go_wp2_with fail
          go_roundw
          case rel => exact ⟨i + 1, by omega, by go_num, HJ, by first | rfl | trivial⟩
          case measure => simp [vInt]; omega
        · have Hv : Hid (V = pv) := Lib.hid (HE.out fun j h5 h6 => by
            have := cutsB_mono hC h5 h6
            rw [hge] at this
            omega)
          clear hN HE hge
          generalize v.cuts[i] = y at *
          go_wp2_with fail
          go_ret
          exact ⟨by rw [Hv.out]; rfl, b1⟩
      · have hil : ¬ (i : Int) < (v.cuts.length : Int) := by omega
        have Hv : Hid (V = pv) := Lib.hid (HE.out fun j h5 h6 => by omega)
        clear hN HE
        go_wp2_with fail
        go_ret
        exact ⟨by rw [Hv.out]; rfl, b1⟩
theorem scaleP_any (y : SclD) (k : Nat) (x : List Int) (X : Option Addr) (xc : Nat) (w : World) (h : SclAt w w.heap.size y) (hx : IntsAt w w.heap.size X x) (hv : sclB y.v = true) (hk : k < x.length) (hxl : x.length ≤ 10) :
    Calls Try.prog 115 #[.agg #[.slice y.A y.v.cuts.length y.a, .slice y.B y.v.pts.length y.b, .int .i64 y.v.non, .int .i64 k], .slice X x.length xc] w fun e w' => e = .returned (.int .i64 (onScl y.v (x.getD k 0))) ∧ Below w.heap.size w w' := scaleP_all y.v y.A y.B y.a y.b k x X xc w h.cuts h.pts hx hv hk hxl

/-- How far it can go from the node that lies in a block. -/
def nodMeas (n : Nat) (w : World) (p : Nat) : Nat :=
  if vInt ((w.cell? ⟨p, 0, none⟩).getD (.bool false)) = -1 then 0
  else n - (min (vInt ((w.cell? ⟨p, 2, none⟩).getD (.bool false))) (vInt ((w.cell? ⟨p, 3, none⟩).getD (.bool false)))).toNat
theorem nodMeas_eq {n : Nat} {w : World} {p : Nat} {y : Nod} {t : TypeId} (h : Blk w p #[.int .i64 y.tr, .int .i64 y.cut, .int .i64 y.low, .int .i64 y.high, .int .i64 y.pts] t) : nodMeas n w p = if y.tr = -1 then 0 else n - (min y.low y.high).toNat := by
  unfold nodMeas
  rw [h.cell, h.cell, h.cell]
  rfl
theorem nod_put {w : World} {g : Nat} {a0 a1 a2 a3 a4 c0 c1 c2 c3 c4 : Value} {t : TypeId} (h : Blk w g #[a0, a1, a2, a3, a4] t) : Blk (((((w.setCell ⟨g, 0, none⟩ c0).setCell ⟨g, 1, none⟩ c1).setCell ⟨g, 2, none⟩ c2).setCell ⟨g, 3, none⟩ c3).setCell ⟨g, 4, none⟩ c4) g #[c0, c1, c2, c3, c4] t := by
  have := ((((h.set 0 c0).set 1 c1).set 2 c2).set 3 c3).set 4 c4
  simpa using this
set_option maxRecDepth 100000 in
set_option maxHeartbeats 4000000 in
theorem treeP_all (wt : Int) (l : List Nod) (T : Option Addr) (t : Nat) (x : List Int) (A : Option Addr) (a : Nat) (w : World) (h : NodsAt w w.heap.size T l) (hx : IntsAt w w.heap.size A x) (hv : ∀ i, i < l.length → nodB l.length x.length i (l.getD i default) = true) (hl : 1 ≤ l.length) (hl2 : l.length ≤ 20) (hxl : x.length ≤ 10) :
    Calls Try.prog 114 #[.agg #[.int .i64 wt, .slice T l.length t], .slice A x.length a] w fun e w' => e = .returned (.int .i64 (onTre ⟨wt, l⟩ x)) ∧ Below w.heap.size w w' := by
  have b1 := (Below.refl w.heap.size w).alloc (Nat.le_refl _) (.cells #[.int .i64 wt, .slice T l.length t] 95)
  have k1 := Blk.new w #[.int .i64 wt, .slice T l.length t] 95
  have g1 := k1.lt
  have k1c := k1.cell
  have HV : Hid (onTre ⟨wt, l⟩ x = treGo l x l.length 0) := Lib.hid rfl
  have h1 := h.later b1
  have h1x := hx.later b1
  clear h hx
  generalize onTre ⟨wt, l⟩ x = V at *
  obtain ⟨b, off, rfl, hb, c0, c1, c2, c3, c4⟩ := nods_at h1 (show 0 < l.length by omega)
  have hil0 : (0 : Int) < (l.length : Int) := by omega
  have hge0 := getD_lt l default (show 0 < l.length by omega)
  rw [Nat.zero_mul, Nat.add_zero] at c0 c1 c2 c3 c4
  have HY : Hid (l[0] = l.getD 0 default) := Lib.hid hge0.symm
  generalize l[0]'(by omega) = y at *
  go_enter Try.func114, Try.ntmps114
  go_wp2_with fail
  generalize hW1 : w.alloc (.cells #[.int .i64 wt, .slice (some ⟨b, off, none⟩) l.length t] 95) = W1 at *
  have hs1 : W1.heap.size = w.heap.size + 1 := by rw [← hW1]; simp
  have k2 := Blk.new W1 #[.int .i64 y.tr, .int .i64 y.cut, .int .i64 y.low, .int .i64 y.high, .int .i64 y.pts] 74
  rw [hs1] at k2
  have b2 := (Below.refl W1.heap.size W1).alloc (Nat.le_refl _) (.cells #[.int .i64 y.tr, .int .i64 y.cut, .int .i64 y.low, .int .i64 y.high, .int .i64 y.pts] 74)
  clear hW1 k1c c0 c1 c2 c3 c4 hb
  generalize W1.alloc (.cells #[.int .i64 y.tr, .int .i64 y.cut, .int .i64 y.low, .int .i64 y.high, .int .i64 y.pts] 74) = W2 at *
  go_loopw [] (fun wr => ∃ (i : Nat) (_ : i < l.length), Hid (Blk wr (w.heap.size + 1) #[.int .i64 (l.getD i default).tr, .int .i64 (l.getD i default).cut, .int .i64 (l.getD i default).low, .int .i64 (l.getD i default).high, .int .i64 (l.getD i default).pts] 74) ∧ Hid ((∃ f, treGo l x f i = V ∧ l.length ≤ i + f) ∧ Below W1.heap.size W1 wr)) (fun wr => nodMeas l.length wr (w.heap.size + 1))
  case atStart => exact ⟨0, by omega, Lib.hid (by rw [hge0]; exact k2), Lib.hid ⟨⟨l.length, HV.out.symm, by omega⟩, b2⟩⟩
  case round =>
    obtain ⟨i, hlt, HK, hR⟩ := hrel
    have kn := HK.out
    obtain ⟨⟨f0, hf, hfl⟩, hB⟩ := hR.out
    have k1r := k1.below hB g1
    have k1c := k1r.cell
    have knc := kn.cell
    have hil : (i : Int) < (l.length : Int) := by omega
    have hnv := hv i hlt
    have hge := getD_lt l default hlt
    have hm := nodMeas_eq (n := l.length) kn
    obtain ⟨f, rfl⟩ : ∃ f, f0 = f + 1 := ⟨f0 - 1, by omega⟩
    by_cases ht : (l.getD i default).tr = -1
    · have e1 : ((l.getD i default).tr != -1) = false := by rw [ht]; rfl
      have Hv : Hid (V = (l.getD i default).pts) := Lib.hid (by rw [← hf, treGo_leaf ht])
      clear hf hge hnv hR ht HV hm HK
      generalize l.getD i default = y at *
      go_wp2_with fail
      go_ret
      exact ⟨by rw [Hv.out]; rfl, b1.trans (hB.mono b1.size)⟩
    · have e1 : ((l.getD i default).tr != -1) = true := by simpa using ht
      obtain ⟨n1, n2, n3, n4, n5, n6⟩ := nodB_inner hnv ht
      have HF : Hid (V = if x.getD (l.getD i default).tr.toNat 0 < (l.getD i default).cut then treGo l x f (l.getD i default).low.toNat else treGo l x f (l.getD i default).high.toNat) := Lib.hid (by rw [← hf, treGo_node ht])
      rw [if_neg ht] at hm
      clear hf hge hnv hR ht HV HK HY hge0
      generalize l.getD i default = y at *
      obtain ⟨tr, cut, low, high, pts⟩ := y
      dsimp only at *
      obtain ⟨tn, rfl⟩ := Int.eq_ofNat_of_zero_le n1
      obtain ⟨ln, rfl⟩ := Int.eq_ofNat_of_zero_le (show 0 ≤ low by omega)
      obtain ⟨hn, rfl⟩ := Int.eq_ofNat_of_zero_le (show 0 ≤ high by omega)
      rw [Int.toNat_natCast, Int.toNat_natCast, Int.toNat_natCast] at HF
      have htx : tn < x.length := by omega
      obtain ⟨bx, offx, rfl, hbx, cx⟩ := ints_at (h1x.later hB) htx
      rw [getD_lt x 0 htx] at HF
      have hbxn := cx
      generalize x[tn] = xv at *
      have k1a := After.cells (B := wr.heap.size) k1r.cell k1r.lt
      have kna := After.cells (B := wr.heap.size) kn.cell kn.lt
      have dx := After.cell (B := wr.heap.size) cx hbx
      by_cases hlc : xv < cut
      · have HJ : Hid (treGo l x f ln = V) := Lib.hid (by rw [HF.out, if_pos hlc])
        obtain ⟨b5, off5, hT5, hb5, c0, c1, c2, c3, c4⟩ := nods_at (h1.later hB) (show ln < l.length by omega)
        obtain ⟨rfl, rfl⟩ : b5 = b ∧ off5 = off := by
          simp only [Option.some.injEq, Addr.mk.injEq, and_true] at hT5
          exact ⟨hT5.1.symm, hT5.2.symm⟩
        have hxn : (ln : Int) < (l.length : Int) := by omega
        have HY2 : Hid (l[ln] = l.getD ln default) := Lib.hid (getD_lt l default (by omega)).symm
        generalize l[ln]'(by omega) = y2 at *
        clear HF hT5
        go_upto_region 3 with fail
        refine wp_region_class_lit (C := fun w' => ∃ z : After wr.heap.size wr, w' = z.val) (by kernel_rfl) (by kernel_rfl) ⟨⟨_, (Below.refl _ _).drew⟩, rfl⟩ ?_
        repeat (go_big_quiet_step (fail))
        refine wpQuiet_nil ?_
        intro wq hw'
        obtain ⟨⟨wz, hz⟩, hw''⟩ := hw'
        dsimp only at hw''
        subst hw''
        have kq := kn.below hz kn.lt
        have kqc := kq.cell
        have k1q := (k1r.below hz k1r.lt).cell
        have e0 := (hz.cell (p := ⟨b5, off5 + ln * 5, none⟩) hb5).trans c0
        have e1 := (hz.cell (p := ⟨b5, off5 + ln * 5 + 1, none⟩) hb5).trans c1
        have e2 := (hz.cell (p := ⟨b5, off5 + ln * 5 + 2, none⟩) hb5).trans c2
        have e3 := (hz.cell (p := ⟨b5, off5 + ln * 5 + 3, none⟩) hb5).trans c3
        have e4 := (hz.cell (p := ⟨b5, off5 + ln * 5 + 4, none⟩) hb5).trans c4
        have z0 := kq.free 0
        have z1 := kq.free 1
        have z2 := kq.free 2
        have z3 := kq.free 3
        have z4 := kq.free 4
        go_wp2_with fail
        have hq2 := nod_put (c0 := .int .i64 y2.tr) (c1 := .int .i64 y2.cut) (c2 := .int .i64 y2.low) (c3 := .int .i64 y2.high) (c4 := .int .i64 y2.pts) kq
        refine ⟨⟨ln, by omega, Lib.hid (by rw [← HY2.out]; exact hq2), Lib.hid ⟨⟨f, HJ.out, by omega⟩, (((((hB.trans (hz.mono hB.size)).setCell (p := ⟨w.heap.size + 1, 0, none⟩) (by simp; omega) _).setCell (p := ⟨w.heap.size + 1, 1, none⟩) (by simp; omega) _).setCell (p := ⟨w.heap.size + 1, 2, none⟩) (by simp; omega) _).setCell (p := ⟨w.heap.size + 1, 3, none⟩) (by simp; omega) _).setCell (p := ⟨w.heap.size + 1, 4, none⟩) (by simp; omega) _⟩⟩, ?_⟩
        rw [hm, nodMeas_eq hq2]
        have hv3 := hv ln (by omega)
        rw [← HY2.out] at hv3
        split
        · omega
        · next ht3 =>
          have n7 := nodB_inner hv3 ht3
          omega
      · have HJ : Hid (treGo l x f hn = V) := Lib.hid (by rw [HF.out, if_neg hlc])
        obtain ⟨b5, off5, hT5, hb5, c0, c1, c2, c3, c4⟩ := nods_at (h1.later hB) (show hn < l.length by omega)
        obtain ⟨rfl, rfl⟩ : b5 = b ∧ off5 = off := by
          simp only [Option.some.injEq, Addr.mk.injEq, and_true] at hT5
          exact ⟨hT5.1.symm, hT5.2.symm⟩
        have hxn : (hn : Int) < (l.length : Int) := by omega
        have HY2 : Hid (l[hn] = l.getD hn default) := Lib.hid (getD_lt l default (by omega)).symm
        generalize l[hn]'(by omega) = y2 at *
        clear HF hT5
        go_upto_region 3 with fail
        refine wp_region_class_lit (C := fun w' => ∃ z : After wr.heap.size wr, w' = z.val) (by kernel_rfl) (by kernel_rfl) ⟨⟨_, (Below.refl _ _).drew⟩, rfl⟩ ?_
        repeat (go_big_quiet_step (fail))
        refine wpQuiet_nil ?_
        intro wq hw'
        obtain ⟨⟨wz, hz⟩, hw''⟩ := hw'
        dsimp only at hw''
        subst hw''
        have kq := kn.below hz kn.lt
        have kqc := kq.cell
        have k1q := (k1r.below hz k1r.lt).cell
        have e0 := (hz.cell (p := ⟨b5, off5 + hn * 5, none⟩) hb5).trans c0
        have e1 := (hz.cell (p := ⟨b5, off5 + hn * 5 + 1, none⟩) hb5).trans c1
        have e2 := (hz.cell (p := ⟨b5, off5 + hn * 5 + 2, none⟩) hb5).trans c2
        have e3 := (hz.cell (p := ⟨b5, off5 + hn * 5 + 3, none⟩) hb5).trans c3
        have e4 := (hz.cell (p := ⟨b5, off5 + hn * 5 + 4, none⟩) hb5).trans c4
        have z0 := kq.free 0
        have z1 := kq.free 1
        have z2 := kq.free 2
        have z3 := kq.free 3
        have z4 := kq.free 4
        go_wp2_with fail
        have hq2 := nod_put (c0 := .int .i64 y2.tr) (c1 := .int .i64 y2.cut) (c2 := .int .i64 y2.low) (c3 := .int .i64 y2.high) (c4 := .int .i64 y2.pts) kq
        refine ⟨⟨hn, by omega, Lib.hid (by rw [← HY2.out]; exact hq2), Lib.hid ⟨⟨f, HJ.out, by omega⟩, (((((hB.trans (hz.mono hB.size)).setCell (p := ⟨w.heap.size + 1, 0, none⟩) (by simp; omega) _).setCell (p := ⟨w.heap.size + 1, 1, none⟩) (by simp; omega) _).setCell (p := ⟨w.heap.size + 1, 2, none⟩) (by simp; omega) _).setCell (p := ⟨w.heap.size + 1, 3, none⟩) (by simp; omega) _).setCell (p := ⟨w.heap.size + 1, 4, none⟩) (by simp; omega) _⟩⟩, ?_⟩
        rw [hm, nodMeas_eq hq2]
        have hv3 := hv hn (by omega)
        rw [← HY2.out] at hv3
        split
        · omega
        · next ht3 =>
          have n7 := nodB_inner hv3 ht3
          omega
theorem treeP_any (y : TreD) (x : List Int) (A : Option Addr) (a : Nat) (w : World) (h : NodsAt w w.heap.size y.T y.v.nodes) (hx : IntsAt w w.heap.size A x) (hv : treB x.length y.v = true) (hxl : x.length ≤ 10) :
    Calls Try.prog 114 #[.agg #[.int .i64 y.v.weight, .slice y.T y.v.nodes.length y.t], .slice A x.length a] w fun e w' => e = .returned (.int .i64 (onTre y.v x)) ∧ Below w.heap.size w w' := by
  unfold treB at hv
  simp only [Bool.and_eq_true, inN_iff, rangeB_iff] at hv
  exact treeP_all y.v.weight y.v.nodes y.T y.t x A a w h hx hv.2 (by omega) (by omega) hxl
end Go.Proofs.Ytijhbcmmoagdmaa

namespace Go.Proofs.Ytijhbcmmoagdmaa
open Go.RowKit Go.Maps

theorem intInfo : (Try.prog.info? 3).map (fun i => (i.zero, i.size, i.bytes)) = some (some (.int .i64 0), 1, 8) := by kernel_rfl
theorem int_new (W : World) (n : Int) (t : TypeId) : ∀ j u, (intC n)[j]? = some u → (W.alloc (.cells #[.int .i64 n] t)).cell? ((⟨W.heap.size, 0, none⟩ : Addr).add j) = some u := fun j u hj => by
  have := (Blk.new W #[.int .i64 n] t).cell j
  rw [show ((⟨W.heap.size, 0, none⟩ : Addr).add j) = ⟨W.heap.size, j, none⟩ by rw [Addr.add]; simp; exact fun h => h.symm]
  refine this.trans ?_
  rw [← hj]; simp [intC]

theorem own_base {w : World} {base base' : Nat} {e : TypeId} {size : Nat} {v : Value} {n : Nat} {xs : List Value} (h : w.ownsRow base e size v n xs) (hb : base' ≤ base) : w.ownsRow base' e size v n xs := by
  refine ⟨h.1, ?_⟩
  rcases h.2 with h0 | ⟨g, cap, cur, h1, h2, h3, h4⟩
  · exact .inl h0
  · exact .inr ⟨g, cap, cur, h1, Nat.le_trans hb h2, h3, h4⟩

set_option maxRecDepth 100000 in
set_option maxHeartbeats 8000000 in
theorem all6_all (traits need : Int) (cl : List CrdD) (tl : List TreD) (C T : Option Addr) (c t : Nat) (x : List Int) (A : Option Addr) (a : Nat) (w : World) (h : MdlAt w w.heap.size ⟨traits, cl, C, c, tl, T, t, need⟩) (hx : IntsAt w w.heap.size A x) (hc : ∀ y ∈ cl, crdB x.length y.v = true) (ht : ∀ y ∈ tl, treB x.length y.v = true) (hcl : cl.length ≤ 6) (htl : tl.length ≤ 6) (hxl : x.length ≤ 10) :
    Calls Try.prog 23 #[.agg #[.int .i64 traits, .slice C cl.length c, .slice T tl.length t, .int .i64 need], .slice A x.length a] w fun e w' => ∃ A' c', e = .returned (.slice A' (ptsL ⟨traits, cl.map CrdD.v, tl.map TreD.v, need⟩ x).length c') ∧ w'.ownsRow w.heap.size 3 1 (.slice A' (ptsL ⟨traits, cl.map CrdD.v, tl.map TreD.v, need⟩ x).length c') (ptsL ⟨traits, cl.map CrdD.v, tl.map TreD.v, need⟩ x).length ((ptsL ⟨traits, cl.map CrdD.v, tl.map TreD.v, need⟩ x).flatMap intC) ∧ Below w.heap.size w w' := by
  obtain ⟨i0, hi0, hz0, hz1, hz2⟩ := info_parts intInfo
  have b1 := (Below.refl w.heap.size w).alloc (Nat.le_refl _) (.cells #[.int .i64 traits, .slice C cl.length c, .slice T tl.length t, .int .i64 need] 25)
  have k1 := Blk.new w #[.int .i64 traits, .slice C cl.length c, .slice T tl.length t, .int .i64 need] 25
  have g1 := k1.lt
  have k1c := k1.cell
  have b1s := b1.size
  have HL : Hid (ptsL ⟨traits, cl.map CrdD.v, tl.map TreD.v, need⟩ x = (cl.map fun y => onCrd y.v x) ++ (tl.map fun y => onTre y.v x)) := Lib.hid (by unfold ptsL; simp [Function.comp_def])
  have h1 := h.later b1
  have h1x := hx.later b1
  have H1 := Lib.hid h1
  have H1x := Lib.hid h1x
  have HC := Lib.hid hc
  have HT := Lib.hid ht
  clear h hx hc ht h1 h1x
  generalize ptsL ⟨traits, cl.map CrdD.v, tl.map TreD.v, need⟩ x = L at *
  go_enter Try.func23, Try.ntmps23
  go_wp2_with fail
  generalize hW1 : w.alloc (.cells #[.int .i64 traits, .slice C cl.length c, .slice T tl.length t, .int .i64 need] 25) = W1 at *
  clear hW1 k1c
  go_loopw [5, 6] (fun vv ii wr => ∃ (i : Nat) (A2 : Option Addr) (c2 : Nat), i ≤ cl.length ∧ vv = .slice A2 i c2 ∧ ii = .int .i64 i ∧ Hid (wr.ownsRow W1.heap.size 3 1 (.slice A2 i c2) i (((cl.take i).map fun y => onCrd y.v x).flatMap intC) ∧ Below W1.heap.size W1 wr)) (fun _ ii _ => cl.length - (vInt ii).toNat)
  case atStart => exact ⟨0, none, 0, Nat.zero_le _, rfl, rfl, Lib.hid ⟨World.ownsRow_nil _ _ _ _, Below.refl _ _⟩⟩
  case round =>
    obtain ⟨i, A2, c2, hi, rfl, rfl, hR⟩ := hrel
    obtain ⟨hO, hB⟩ := hR.out
    have k2 := k1.below hB g1
    have b2 := b1.trans (hB.mono b1s)
    have k2c := k2.cell
    have hzw : w.heap.size ≤ wr.heap.size := b2.size
    by_cases hlt : i < cl.length
    · have hil : (i : Int) < (cl.length : Int) := by omega
      have h2 := (H1.out.later hB).cards
      obtain ⟨b, off, rfl, hb, c0, c1, c2'⟩ := crds_at h2.row hlt
      have hmem := List.getElem_mem hlt
      have HCd := Lib.hid (onCard6_any cl[i] x A a wr (h2.each _ hmem) (H1x.out.later hB) (HC.out _ hmem) hxl)
      have HT1 : Hid (((cl.take (i + 1)).map fun y => onCrd y.v x).flatMap intC = ((cl.take i).map fun y => onCrd y.v x).flatMap intC ++ intC (onCrd cl[i].v x)) := Lib.hid (by rw [List.take_succ_eq_append_getElem hlt, List.map_append, List.flatMap_append]; simp)
      have HO := Lib.hid hO
      clear hR hO h2 hmem
      generalize onCrd cl[i].v x = o at *
      generalize cl[i] = y at *
      go_wp2_with (first
        | (go_at_call 37; (with_reducible refine (HCd.out).mono ?_); rintro e w5 ⟨rfl, h5⟩; have hownA := (own_below HO.out h5).alloc (.cells #[.int .i64 o] 3); have hb5 := (h5.alloc h5.size (.cells #[.int .i64 o] 3)); have hs5 := h5.size)
        | (at_builtin; refine wpList_append_own_at _ rfl _ _ 26 rfl W1.heap.size 3 i0 _ 1 8 Try.underlying26 hi0 hz0 hz1 hz2 rfl (by decide) _ _ _ rfl hownA ⟨w5.heap.size, 0, none⟩ 1 1 (intC o) rfl rfl (int_new w5 o 3) (intC_one _) (by unfold maxLen; omega) (by omega) (by simp; have := hB.size; omega) ?_; intro v' w6 hown6 hg6 _ _; obtain ⟨A3, c3, rfl⟩ := own_slice hown6))
      go_roundw
      case rel => exact ⟨i + 1, A3, c3, by omega, rfl, by go_num, Lib.hid ⟨by rw [HT1.out]; exact hown6, hB.trans ((hb5.mono (by have := hB.size; omega)).grown hg6 (by simp; have := hB.size; omega) (fun k e => by have := (hownA.lt k e).1; omega))⟩⟩
      case measure => simp [vInt]; omega
    · have hil : ¬ (i : Int) < (cl.length : Int) := by omega
      obtain rfl : i = cl.length := by omega
      rw [List.take_length] at hO
      have H2x := Lib.hid (H1x.out.later hB)
      have H2 := Lib.hid (H1.out.later hB)
      have HO0 := Lib.hid hO
      have HB1 := Lib.hid hB
      have hB1s := hB.size
      clear hR hO hB HC
      go_wp2_with fail
      clear k2c
      generalize wr = W2 at *
      go_loopw [5, 7] (fun vv ii wr => ∃ (i : Nat) (A3 : Option Addr) (c3 : Nat), i ≤ tl.length ∧ vv = .slice A3 (cl.length + i) c3 ∧ ii = .int .i64 i ∧ Hid (wr.ownsRow W1.heap.size 3 1 (.slice A3 (cl.length + i) c3) (cl.length + i) (((cl.map fun y => onCrd y.v x) ++ ((tl.take i).map fun y => onTre y.v x)).flatMap intC) ∧ Below W1.heap.size W1 wr)) (fun _ ii _ => tl.length - (vInt ii).toNat)
      case atStart => exact ⟨0, A2, c2, Nat.zero_le _, rfl, rfl, Lib.hid ⟨by rw [List.take_zero, List.map_nil, List.append_nil]; exact HO0.out, HB1.out⟩⟩
      case round =>
        obtain ⟨i, A3, c3, hi, rfl, rfl, hR⟩ := hrel
        obtain ⟨hO, hB⟩ := hR.out
        have k3 := k1.below hB g1
        have b3 := b1.trans (hB.mono b1s)
        have k3c := k3.cell
        have hzw3 : w.heap.size ≤ wr.heap.size := b3.size
        by_cases hlt : i < tl.length
        · have hil : (i : Int) < (tl.length : Int) := by omega
          have h3 := (H1.out.later hB).trees
          obtain ⟨b, off, rfl, hb, c0, c1⟩ := tres_at h3.row hlt
          have hmem := List.getElem_mem hlt
          have HCd := Lib.hid (onTree6_any tl[i] x A a wr (h3.each _ hmem) (H1x.out.later hB) (HT.out _ hmem) hxl)
          have HT1 : Hid (((cl.map fun y => onCrd y.v x) ++ ((tl.take (i + 1)).map fun y => onTre y.v x)).flatMap intC = ((cl.map fun y => onCrd y.v x) ++ ((tl.take i).map fun y => onTre y.v x)).flatMap intC ++ intC (onTre tl[i].v x)) := Lib.hid (by rw [List.take_succ_eq_append_getElem hlt, List.map_append, ← List.append_assoc, List.flatMap_append]; simp)
          have HO := Lib.hid hO
          clear hR hO h3 hmem
          generalize onTre tl[i].v x = o at *
          generalize tl[i] = y at *
          go_wp2_with (first
            | (go_at_call 38; (with_reducible refine (HCd.out).mono ?_); rintro e w5 ⟨rfl, h5⟩; have hownA := (own_below HO.out h5).alloc (.cells #[.int .i64 o] 3); have hb5 := (h5.alloc h5.size (.cells #[.int .i64 o] 3)); have hs5 := h5.size)
            | (at_builtin; refine wpList_append_own_at _ rfl _ _ 26 rfl W1.heap.size 3 i0 _ 1 8 Try.underlying26 hi0 hz0 hz1 hz2 rfl (by decide) _ _ _ rfl hownA ⟨w5.heap.size, 0, none⟩ 1 1 (intC o) rfl rfl (int_new w5 o 3) (intC_one _) (by unfold maxLen; omega) (by omega) (by simp; have := hB.size; omega) ?_; intro v' w6 hown6 hg6 _ _; obtain ⟨A4, c4, rfl⟩ := own_slice hown6))
          go_roundw
          case rel => exact ⟨i + 1, A4, c4, by omega, rfl, by go_num, Lib.hid ⟨by rw [HT1.out]; exact hown6, hB.trans ((hb5.mono (by have := hB.size; omega)).grown hg6 (by simp; have := hB.size; omega) (fun k e => by have := (hownA.lt k e).1; omega))⟩⟩
          case measure => simp [vInt]; omega
        · have hil : ¬ (i : Int) < (tl.length : Int) := by omega
          obtain rfl : i = tl.length := by omega
          have HO3 := Lib.hid hO
          clear hR hO
          go_wp2_with fail
          go_ret
          have hlen : L.length = cl.length + tl.length := by rw [HL.out]; simp
          have hO4 := HO3.out
          rw [List.take_length, ← HL.out, ← hlen] at hO4
          exact ⟨A3, c3, by rw [hlen]; rfl, own_base hO4 b1s, b3⟩
end Go.Proofs.Ytijhbcmmoagdmaa

namespace Go.Proofs.Ytijhbcmmoagdmaa
open Go.RowKit Go.Maps

theorem crdB_parts {traits : Int} {c : Crd} (h : crdB traits c = true) : (0 ≤ c.weight ∧ c.weight ≤ 1000) ∧ ptB c.base = true ∧ (c.scales.length : Int) = traits ∧ ∀ s ∈ c.scales, sclB s = true := by
  unfold crdB at h
  simp only [Bool.and_eq_true, decide_eq_true_eq, List.all_eq_true] at h
  exact ⟨inN_iff.1 h.1.1.1, h.1.1.2, h.1.2, h.2⟩
theorem treB_parts {traits : Int} {t : Tre} (h : treB traits t = true) : (0 ≤ t.weight ∧ t.weight ≤ 1000) ∧ (1 ≤ t.nodes.length ∧ t.nodes.length ≤ 7) ∧ ∀ i, i < t.nodes.length → nodB t.nodes.length traits i (t.nodes.getD i default) = true := by
  unfold treB at h
  simp only [Bool.and_eq_true, inN_iff, rangeB_iff] at h
  exact ⟨h.1.1, by omega, h.2⟩
theorem onCrd_bound {c : Crd} {x : List Int} (h : crdB x.length c = true) (hx : x.length ≤ 10) : -11000000 ≤ onCrd c x ∧ onCrd c x ≤ 11000000 := by
  obtain ⟨_, h2, h3, h4⟩ := crdB_parts h
  have h5 := sclsUp_bound h4 x c.scales.length (Nat.le_refl _)
  have h6 := ptB_iff.1 h2
  unfold onCrd
  omega
theorem treGo_bound {l : List Nod} {x : List Int} (h : ∀ i, i < l.length → (l.getD i default).tr = -1 → ptB (l.getD i default).pts = true) : ∀ f a, -1000000 ≤ treGo l x f a ∧ treGo l x f a ≤ 1000000
  | 0, _ => by simp [treGo]
  | f + 1, a => by
    by_cases ht : (l.getD a default).tr = -1
    · rw [treGo_leaf ht]
      rcases Nat.lt_or_ge a l.length with h1 | h1
      · exact ptB_iff.1 (h a h1 ht)
      · have e : l.getD a default = default := by simp [h1]
        rw [e] at ht
        cases ht
    · rw [treGo_node ht]
      split
      · exact treGo_bound h f _
      · exact treGo_bound h f _
theorem onTre_bound {t : Tre} {x : List Int} (h : treB x.length t = true) : -1000000 ≤ onTre t x ∧ onTre t x ≤ 1000000 :=
  treGo_bound (fun i hi ht => by
    have := (treB_parts h).2.2 i hi
    rw [nodB_leaf ht] at this
    simp only [Bool.and_eq_true] at this
    exact this.2) _ _
theorem mul_bound {w p : Int} (h1 : 0 ≤ w ∧ w ≤ 1000) (h2 : -11000000 ≤ p ∧ p ≤ 11000000) : -11000000000 ≤ w * p ∧ w * p ≤ 11000000000 := by
  have a1 := Int.mul_le_mul_of_nonneg_left h2.2 h1.1
  have a2 := Int.mul_le_mul_of_nonneg_left h2.1 h1.1
  omega
/-- What counts, part by part. -/
def prodL (m : Mdl) (x : List Int) : List Int := (m.cards.map fun c => c.weight * onCrd c x) ++ (m.trees.map fun t => t.weight * onTre t x)
theorem scoreM_eq (m : Mdl) (x : List Int) : scoreM m x = sumL (prodL m x) := rfl
theorem sumL_bound : ∀ (l : List Int), (∀ z ∈ l, -11000000000 ≤ z ∧ z ≤ 11000000000) → -(11000000000 * (l.length : Int)) ≤ sumL l ∧ sumL l ≤ 11000000000 * (l.length : Int)
  | [], _ => by simp [sumL]
  | z :: l, h => by
    have h1 := h z (by simp)
    have h2 := sumL_bound l fun y hy => h y (by simp [hy])
    rw [sumL, List.length_cons]
    omega

set_option maxRecDepth 100000 in
set_option maxHeartbeats 8000000 in
theorem score6_all (traits need : Int) (cl : List CrdD) (tl : List TreD) (C T : Option Addr) (c t : Nat) (x : List Int) (A : Option Addr) (a : Nat) (w : World) (h : MdlAt w w.heap.size ⟨traits, cl, C, c, tl, T, t, need⟩) (hx : IntsAt w w.heap.size A x) (hc : ∀ y ∈ cl, crdB x.length y.v = true) (ht : ∀ y ∈ tl, treB x.length y.v = true) (hcl : cl.length ≤ 6) (htl : tl.length ≤ 6) (hxl : x.length ≤ 10) :
    Calls Try.prog 21 #[.agg #[.int .i64 traits, .slice C cl.length c, .slice T tl.length t, .int .i64 need], .slice A x.length a] w fun e w' => e = .returned (.int .i64 (scoreM ⟨traits, cl.map CrdD.v, tl.map TreD.v, need⟩ x)) ∧ Below w.heap.size w w' := by
  have b1 := (Below.refl w.heap.size w).alloc (Nat.le_refl _) (.cells #[.int .i64 traits, .slice C cl.length c, .slice T tl.length t, .int .i64 need] 25)
  have k1 := Blk.new w #[.int .i64 traits, .slice C cl.length c, .slice T tl.length t, .int .i64 need] 25
  have g1 := k1.lt
  have k1c := k1.cell
  have b1s := b1.size
  have HA := Lib.hid (all6_all traits need cl tl C T c t x A a _ (h.later b1) (hx.later b1) hc ht hcl htl hxl)
  have hlen : (ptsL ⟨traits, cl.map CrdD.v, tl.map TreD.v, need⟩ x).length = cl.length + tl.length := by unfold ptsL; simp
  have HLc : Hid (∀ i (hi : i < cl.length), (ptsL ⟨traits, cl.map CrdD.v, tl.map TreD.v, need⟩ x).getD i 0 = onCrd cl[i].v x) := Lib.hid (fun i hi => by
    rw [getD_lt _ _ (by rw [hlen]; omega)]
    unfold ptsL
    rw [List.getElem_append_left (by simpa using hi)]
    simp)
  have HLt : Hid (∀ i (hi : i < tl.length), (ptsL ⟨traits, cl.map CrdD.v, tl.map TreD.v, need⟩ x).getD (cl.length + i) 0 = onTre tl[i].v x) := Lib.hid (fun i hi => by
    rw [getD_lt _ _ (by rw [hlen]; omega)]
    unfold ptsL
    rw [List.getElem_append_right (by simp)]
    simp)
  have hpl : (prodL ⟨traits, cl.map CrdD.v, tl.map TreD.v, need⟩ x).length = cl.length + tl.length := by unfold prodL; simp
  have HPc : Hid (∀ i (hi : i < cl.length), (prodL ⟨traits, cl.map CrdD.v, tl.map TreD.v, need⟩ x).getD i 0 = cl[i].weight * onCrd cl[i].v x) := Lib.hid (fun i hi => by
    rw [getD_lt _ _ (by rw [hpl]; omega)]
    unfold prodL
    rw [List.getElem_append_left (by simpa using hi)]
    simp [CrdD.v])
  have HPt : Hid (∀ i (hi : i < tl.length), (prodL ⟨traits, cl.map CrdD.v, tl.map TreD.v, need⟩ x).getD (cl.length + i) 0 = tl[i].v.weight * onTre tl[i].v x) := Lib.hid (fun i hi => by
    rw [getD_lt _ _ (by rw [hpl]; omega)]
    unfold prodL
    rw [List.getElem_append_right (by simp)]
    simp)
  have HPB : Hid (∀ z ∈ prodL ⟨traits, cl.map CrdD.v, tl.map TreD.v, need⟩ x, -11000000000 ≤ z ∧ z ≤ 11000000000) := Lib.hid (fun z hz => by
    unfold prodL at hz
    rcases List.mem_append.1 hz with hz | hz
    · obtain ⟨y, hy, rfl⟩ := List.mem_map.1 hz
      obtain ⟨q, hq, rfl⟩ := List.mem_map.1 hy
      exact mul_bound (crdB_parts (hc q hq)).1 (onCrd_bound (hc q hq) hxl)
    · obtain ⟨y, hy, rfl⟩ := List.mem_map.1 hz
      obtain ⟨q, hq, rfl⟩ := List.mem_map.1 hy
      have := onTre_bound (ht q hq)
      exact mul_bound (treB_parts (ht q hq)).1 (by omega))
  have HV := Lib.hid (scoreM_eq ⟨traits, cl.map CrdD.v, tl.map TreD.v, need⟩ x)
  have HhC := Lib.hid (fun W hb => (h.later (w' := W) hb).cards.row)
  have HhT := Lib.hid (fun W hb => (h.later (w' := W) hb).trees.row)
  clear h hx hc ht
  generalize scoreM ⟨traits, cl.map CrdD.v, tl.map TreD.v, need⟩ x = V at *
  generalize ptsL ⟨traits, cl.map CrdD.v, tl.map TreD.v, need⟩ x = L at *
  generalize prodL ⟨traits, cl.map CrdD.v, tl.map TreD.v, need⟩ x = PR at *
  go_enter Try.func21, Try.ntmps21
  go_wp2_with (go_at_call 23; (with_reducible refine (HA.out).mono ?_); rintro e w2 ⟨A2, c2, rfl, hown, h2⟩)
  have b2 := b1.trans (h2.mono b1s)
  have k2 := k1.below h2 g1
  have b2s := b2.size
  have g2 := k2.lt
  have HL2 := Lib.hid (Flat.of_own (n := 1) (f := intC) (fun _ => rfl) (by decide) hown)
  clear HA hown k1 k1c
  go_loopw [6, 7] (fun zz ii wr => ∃ (i : Nat) (z : Int), i ≤ cl.length + tl.length ∧ zz = .int .i64 z ∧ ii = .int .i64 i ∧ Hid (z = sumL (PR.take i)) ∧ Hid (Below w2.heap.size w2 wr)) (fun _ ii _ => cl.length + tl.length - (vInt ii).toNat)
  case atStart => exact ⟨0, 0, Nat.zero_le _, rfl, rfl, Lib.hid (by simp [sumL]), Lib.hid (Below.refl _ _)⟩
  case round =>
    obtain ⟨i, z, hi, rfl, rfl, hZ, hBh⟩ := hrel
    have hB := hBh.out
    have k3 := k2.below hB g2
    have b3 := b2.trans (hB.mono b2s)
    have k3c := k3.cell
    by_cases hlt : i < cl.length + tl.length
    · have hiL : i < L.length := by omega
      have hil : (i : Int) < (L.length : Int) := by omega
      have hzB := sumL_bound (PR.take i) fun q hq => HPB.out q (List.mem_of_mem_take hq)
      rw [List.length_take, Nat.min_eq_left (by omega)] at hzB
      have hzv := hZ.out
      obtain ⟨bl, offl, hAl, hbl, cl0⟩ := ints_at (HL2.out.later hB) hiL
      have hPi : i < PR.length := by omega
      have hPb := HPB.out PR[i] (List.getElem_mem hPi)
      have HS : Hid (sumL (PR.take (i + 1)) = sumL (PR.take i) + PR[i]) := Lib.hid (by rw [List.take_succ_eq_append_getElem hPi, sumL_snoc])
      have hPg := getD_lt PR 0 hPi
      have hLg := getD_lt L 0 hiL
      cases hAl
      by_cases hc : i < cl.length
      · have hic : (i : Int) < (cl.length : Int) := by omega
        obtain ⟨b, off, rfl, hb, c0, c1, c2'⟩ := crds_at (HhC.out wr b3) hc
        have e1 := HPc.out i hc
        rw [hPg] at e1
        have e2 := HLc.out i hc
        rw [hLg] at e2
        rw [e2] at cl0
        rw [e1] at hPb HS
        have hw1 : IntKind.i64.wrap (cl[i].weight * onCrd cl[i].v x) = cl[i].weight * onCrd cl[i].v x := IntWalk.i64_in _ (by omega)
        have hw2 : IntKind.i64.wrap (z + cl[i].weight * onCrd cl[i].v x) = z + cl[i].weight * onCrd cl[i].v x := IntWalk.i64_in _ (by omega)
        have HJ : Hid (z + cl[i].weight * onCrd cl[i].v x = sumL (PR.take (i + 1))) := Lib.hid (by rw [HS.out, hzv])
        have k3a := After.cells (B := wr.heap.size) k3.cell k3.lt
        have d0 := After.cell (B := wr.heap.size) c0 hb
        have dl := After.cell (B := wr.heap.size) cl0 hbl
        clear hzB hzv hZ hPb HS hPg hLg e1 e2 c0 c1 c2' cl0 hBh
        generalize onCrd cl[i].v x = o at *
        generalize cl[i].weight = wt at *
        go_upto_region 7 with fail
        refine wp_region_class_lit (C := fun w' => ∃ z : After wr.heap.size wr, w' = z.val) (by kernel_rfl) (by kernel_rfl) ⟨⟨_, (Below.refl _ _).drew⟩, rfl⟩ ?_
        repeat (go_big_quiet_step (fail))
        refine wpQuiet_nil ?_
        intro wq hw'
        obtain ⟨⟨wz, hz⟩, hw''⟩ := hw'
        dsimp only at hw''
        subst hw''
        go_wp2_with fail
        go_roundw
        case rel => exact ⟨i + 1, z + wt * o, by omega, rfl, by go_num, HJ, Lib.hid (hB.trans (hz.mono hB.size))⟩
        case measure => simp [vInt]; omega
      · have hic : ¬ (i : Int) < (cl.length : Int) := by omega
        have hij : cl.length + (i - cl.length) = i := by omega
        obtain ⟨j, hj, hs1, e1, e2⟩ : ∃ j, ∃ hj : j < tl.length, IntKind.i64.wrap ((i : Int) - (cl.length : Int)) = (j : Int) ∧ PR.getD i 0 = tl[j].v.weight * onTre tl[j].v x ∧ L.getD i 0 = onTre tl[j].v x :=
          ⟨i - cl.length, by omega, by rw [IntWalk.i64_in _ (by omega)]; omega, by have := HPt.out (i - cl.length) (by omega); rwa [hij] at this, by have := HLt.out (i - cl.length) (by omega); rwa [hij] at this⟩
        clear hij
        obtain ⟨b, off, rfl, hb, c0, c1⟩ := tres_at (HhT.out wr b3) hj
        rw [hPg] at e1
        rw [hLg] at e2
        rw [e2] at cl0
        rw [e1] at hPb HS
        have hjt : (j : Int) < (tl.length : Int) := by omega
        have hw1 : IntKind.i64.wrap (tl[j].v.weight * onTre tl[j].v x) = tl[j].v.weight * onTre tl[j].v x := IntWalk.i64_in _ (by omega)
        have hw2 : IntKind.i64.wrap (z + tl[j].v.weight * onTre tl[j].v x) = z + tl[j].v.weight * onTre tl[j].v x := IntWalk.i64_in _ (by omega)
        have HJ : Hid (z + tl[j].v.weight * onTre tl[j].v x = sumL (PR.take (i + 1))) := Lib.hid (by rw [HS.out, hzv])
        have k3a := After.cells (B := wr.heap.size) k3.cell k3.lt
        have d0 := After.cell (B := wr.heap.size) c0 hb
        have dl := After.cell (B := wr.heap.size) cl0 hbl
        clear hzB hzv hZ hPb HS hPg hLg e1 e2 c0 c1 cl0 hBh
        generalize onTre tl[j].v x = o at *
        generalize tl[j].v.weight = wt at *
        go_upto_region 8 with fail
        refine wp_region_class_lit (C := fun w' => ∃ z : After wr.heap.size wr, w' = z.val) (by kernel_rfl) (by kernel_rfl) ⟨⟨_, (Below.refl _ _).drew⟩, rfl⟩ ?_
        repeat (go_big_quiet_step (fail))
        refine wpQuiet_nil ?_
        intro wq hw'
        obtain ⟨⟨wz, hz⟩, hw''⟩ := hw'
        dsimp only at hw''
        subst hw''
        go_wp2_with fail
        go_roundw
        case rel => exact ⟨i + 1, z + wt * o, by omega, rfl, by go_num, HJ, Lib.hid (hB.trans (hz.mono hB.size))⟩
        case measure => simp [vInt]; omega
    · have hil : ¬ (i : Int) < (L.length : Int) := by omega
      have Hv : Hid (V = z) := Lib.hid (by rw [HV.out, hZ.out, List.take_of_length_le (by omega)])
      clear hZ hBh
      go_wp2_with fail
      go_ret
      exact ⟨by rw [Hv.out]; rfl, b3⟩
end Go.Proofs.Ytijhbcmmoagdmaa

namespace Go.Proofs.Ytijhbcmmoagdmaa
open Go.RowKit Go.Maps

/-- A part of a share. -/
inductive PartD where
  | scl (x : SclD) (k : Nat)
  | tre (y : TreD)
def partC : PartD → List Value
  | .scl x k => [.iface 115 (.agg #[.slice x.A x.v.cuts.length x.a, .slice x.B x.v.pts.length x.b, .int .i64 x.v.non, .int .i64 k])]
  | .tre y => [.iface 95 (.agg #[.int .i64 y.v.weight, .slice y.T y.v.nodes.length y.t])]
theorem partC_len (p : PartD) : (partC p).length = 1 := by cases p <;> rfl
theorem partC_one (p : PartD) : ∀ u ∈ partC p, u.oneCell' = true := fun u hu => by
  cases p <;>
  · simp only [partC, List.mem_cons, List.not_mem_nil, or_false] at hu
    rcases hu with rfl; rfl
def PartAt (w : World) (B : Nat) : PartD → Prop
  | .scl x _ => SclAt w B x
  | .tre y => NodsAt w B y.T y.v.nodes
theorem PartAt.later {w w' : World} {p : PartD} (h : PartAt w w.heap.size p) (hb : Below w.heap.size w w') : PartAt w' w'.heap.size p := by
  cases p with
  | scl x k => exact SclAt.later h hb
  | tre y => exact Flat.later h hb
theorem PartAt.below {w w' : World} {B : Nat} {p : PartD} (h : PartAt w B p) (hb : Below B w w') : PartAt w' B p := by
  cases p with
  | scl x k => exact SclAt.below h hb
  | tre y => exact Flat.below h hb
theorem PartAt.more {w : World} {B B' : Nat} {p : PartD} (h : PartAt w B p) (hB : B ≤ B') : PartAt w B' p := by
  cases p with
  | scl x k => exact SclAt.more h hB
  | tre y => exact Flat.more h hB
/-- Whether a part is one for so many values. -/
def PartOk (n : Nat) : PartD → Prop
  | .scl x k => sclB x.v = true ∧ k < n
  | .tre y => treB n y.v = true
def onPart (x : List Int) : PartD → Int
  | .scl s k => onScl s.v (x.getD k 0)
  | .tre y => onTre y.v x
theorem onPart_bound {x : List Int} {p : PartD} (h : PartOk x.length p) : -1000000 ≤ onPart x p ∧ onPart x p ≤ 1000000 := by
  cases p with
  | scl s k => exact onScl_bound h.1 _
  | tre y => exact onTre_bound h
structure PartsAt (w : World) (B : Nat) (P : Option Addr) (l : List PartD) : Prop where
  row : Flat 1 partC w B P l
  each : ∀ p ∈ l, PartAt w B p
theorem PartsAt.later {w w' : World} {P : Option Addr} {l : List PartD} (h : PartsAt w w.heap.size P l) (hb : Below w.heap.size w w') : PartsAt w' w'.heap.size P l := ⟨h.row.later hb, fun x hx => (h.each x hx).later hb⟩
theorem PartsAt.below {w w' : World} {B : Nat} {P : Option Addr} {l : List PartD} (h : PartsAt w B P l) (hb : Below B w w') : PartsAt w' B P l := ⟨h.row.below hb, fun x hx => (h.each x hx).below hb⟩
theorem PartsAt.more {w : World} {B B' : Nat} {P : Option Addr} {l : List PartD} (h : PartsAt w B P l) (hB : B ≤ B') : PartsAt w B' P l := ⟨h.row.more hB, fun x hx => (h.each x hx).more hB⟩
theorem parts_at {w : World} {B : Nat} {A : Option Addr} {l : List PartD} (h : Flat 1 partC w B A l) {k : Nat} (hk : k < l.length) : ∃ b off, A = some ⟨b, off, none⟩ ∧ b < B ∧ w.cell? ⟨b, off + k, none⟩ = (partC l[k])[0]? := by
  obtain ⟨b, off, e, h1, h2⟩ := h k hk
  exact ⟨b, off, e, h1, by have := h2 0 (by omega); rwa [Nat.mul_one, Nat.add_zero] at this⟩
theorem sumL_parts_bound {x : List Int} {l : List PartD} (h : ∀ p ∈ l, PartOk x.length p) : ∀ k, k ≤ l.length → -(1000000 * (k : Int)) ≤ sumL ((l.take k).map (onPart x)) ∧ sumL ((l.take k).map (onPart x)) ≤ 1000000 * (k : Int)
  | 0, _ => by simp [sumL]
  | k + 1, hk => by
    have h1 := sumL_parts_bound h k (by omega)
    have h2 := onPart_bound (h l[k] (List.getElem_mem (by omega)))
    rw [List.take_succ_eq_append_getElem (by omega), List.map_append, List.map_singleton, sumL_snoc]
    omega

set_option maxRecDepth 100000 in
set_option maxHeartbeats 4000000 in
theorem shareP_all (wt base : Int) (l : List PartD) (P : Option Addr) (p : Nat) (x : List Int) (X : Option Addr) (xc : Nat) (w : World) (h : PartsAt w w.heap.size P l) (hx : IntsAt w w.heap.size X x) (hok : ∀ q ∈ l, PartOk x.length q) (hb : ptB base = true) (hl : l.length ≤ 10) (hxl : x.length ≤ 10) :
    Calls Try.prog 36 #[.agg #[.int .i64 wt, .int .i64 base, .slice P l.length p], .slice X x.length xc] w fun e w' => e = .returned (.int .i64 (base + sumL (l.map (onPart x)))) ∧ Below w.heap.size w w' := by
  have b1 := (Below.refl w.heap.size w).alloc (Nat.le_refl _) (.cells #[.int .i64 wt, .int .i64 base, .slice P l.length p] 84)
  have k1 := Blk.new w #[.int .i64 wt, .int .i64 base, .slice P l.length p] 84
  have g1 := k1.lt
  have k1c := k1.cell
  have HV : Hid (base + sumL (l.map (onPart x)) = base + sumL ((l.take l.length).map (onPart x))) := Lib.hid (by rw [List.take_length])
  have HB := Lib.hid (sumL_parts_bound hok)
  have hbb := ptB_iff.1 hb
  have h1 := h.later b1
  have h1x := hx.later b1
  clear h hx hb
  generalize base + sumL (l.map (onPart x)) = V at *
  go_enter Try.func36, Try.ntmps36
  go_wp2_with fail
  generalize hW1 : w.alloc (.cells #[.int .i64 wt, .int .i64 base, .slice P l.length p] 84) = W1 at *
  clear hW1 k1c
  go_loopw [5, 13] (fun zz ii wr => ∃ (i : Nat) (z : Int), i ≤ l.length ∧ zz = .int .i64 z ∧ ii = .int .i64 i ∧ Hid (z = base + sumL ((l.take i).map (onPart x))) ∧ Hid (Below W1.heap.size W1 wr)) (fun _ ii _ => l.length - (vInt ii).toNat)
  case atStart => exact ⟨0, base, Nat.zero_le _, rfl, rfl, Lib.hid (by simp [sumL]), Lib.hid (Below.refl _ _)⟩
  case round =>
    obtain ⟨i, z, hi, rfl, rfl, hZ, hBh⟩ := hrel
    have hB := hBh.out
    have k2 := k1.below hB g1
    have b2 := b1.trans (hB.mono b1.size)
    have k2c := k2.cell
    by_cases hlt : i < l.length
    · have hil : (i : Int) < (l.length : Int) := by omega
      have h2 := h1.later hB
      obtain ⟨b, off, rfl, hb, c0⟩ := parts_at h2.row hlt
      have hmem := List.getElem_mem hlt
      have hat := h2.each _ hmem
      have hpo := hok _ hmem
      have hbd := HB.out i (by omega)
      have hbo := onPart_bound hpo
      have HN : Hid (base + sumL ((l.take (i + 1)).map (onPart x)) = base + sumL ((l.take i).map (onPart x)) + onPart x l[i]) := Lib.hid (by rw [List.take_succ_eq_append_getElem hlt, List.map_append, List.map_singleton, sumL_snoc]; omega)
      have hzv := hZ.out
      have hwr : IntKind.i64.wrap (z + onPart x l[i]) = z + onPart x l[i] := IntWalk.i64_in _ (by omega)
      have HJ : Hid (z + onPart x l[i] = base + sumL ((l.take (i + 1)).map (onPart x))) := Lib.hid (by rw [HN.out, hzv])
      have hxw := h1x.later hB
      clear hbd hbo HN hzv hZ hmem h2 hBh
      generalize l[i] = q at *
      cases q with
      | scl y k =>
        have GC : Hid (Calls Try.prog 115 #[.agg #[.slice y.A y.v.cuts.length y.a, .slice y.B y.v.pts.length y.b, .int .i64 y.v.non, .int .i64 k], .slice X x.length xc] wr fun e w' => e = .returned (.int .i64 (onPart x (.scl y k))) ∧ Below wr.heap.size wr w') := Lib.hid (scaleP_any y k x X xc wr hat hxw hpo.1 hpo.2 hxl)
        generalize onPart x (.scl y k) = o at *
        have c1 : wr.cell? ⟨b, off + i, none⟩ = some (.iface 115 (.agg #[.slice y.A y.v.cuts.length y.a, .slice y.B y.v.pts.length y.b, .int .i64 y.v.non, .int .i64 k])) := c0
        clear c0
        go_wp2_with (go_at_call 115; (with_reducible refine (GC.out).mono ?_); rintro e w5 ⟨rfl, h5⟩; have k5c := (k2.below h5 k2.lt).cell)
        go_roundw
        case rel => exact ⟨i + 1, z + o, by omega, rfl, by go_num, HJ, Lib.hid (hB.trans (h5.mono hB.size))⟩
        case measure => simp [vInt]; omega
      | tre y =>
        have GC : Hid (Calls Try.prog 114 #[.agg #[.int .i64 y.v.weight, .slice y.T y.v.nodes.length y.t], .slice X x.length xc] wr fun e w' => e = .returned (.int .i64 (onPart x (.tre y))) ∧ Below wr.heap.size wr w') := Lib.hid (treeP_any y x X xc wr hat hxw hpo hxl)
        generalize onPart x (.tre y) = o at *
        have c1 : wr.cell? ⟨b, off + i, none⟩ = some (.iface 95 (.agg #[.int .i64 y.v.weight, .slice y.T y.v.nodes.length y.t])) := c0
        clear c0
        go_wp2_with (go_at_call 114; (with_reducible refine (GC.out).mono ?_); rintro e w5 ⟨rfl, h5⟩; have k5c := (k2.below h5 k2.lt).cell)
        go_roundw
        case rel => exact ⟨i + 1, z + o, by omega, rfl, by go_num, HJ, Lib.hid (hB.trans (h5.mono hB.size))⟩
        case measure => simp [vInt]; omega
    · have hil : ¬ (i : Int) < (l.length : Int) := by omega
      obtain rfl : i = l.length := by omega
      have Hv : Hid (V = z) := Lib.hid (by rw [HV.out, hZ.out])
      clear hZ hBh
      go_wp2_with fail
      go_ret
      exact ⟨by rw [Hv.out]; rfl, b2⟩
end Go.Proofs.Ytijhbcmmoagdmaa
