/- Points, by the reference. Written by a program. -/
import Derived.Test.YtkimojiakabbcaaGreatSRef4

namespace Go.Proofs.YtkimojiakabbcaaGreat
open Go.RowKit Go.Maps

theorem cntLe_snoc (l : List Int) (c v : Int) : cntLe (l ++ [c]) v = cntLe l v + (if c ≤ v then 1 else 0) := by
  unfold cntLe
  rw [List.filter_append, List.length_append]
  by_cases h : c ≤ v <;> simp [h]

set_option maxRecDepth 100000 in
set_option maxHeartbeats 4000000 in
theorem onScale6_all (v : Scl) (A B : Option Addr) (a bb : Nat) (x : Int) (w : World) (h : IntsAt w w.heap.size A v.cuts) (hp : IntsAt w w.heap.size B v.pts) (hv : sclB v = true) :
    Calls Tryz.prog 111 #[.agg #[.slice A v.cuts.length a, .slice B v.pts.length bb, .int .i64 v.non], .int .i64 x] w fun e w' => e = .returned (.int .i64 (onScl v x)) ∧ Below w.heap.size w w' := by
  have b1 := (Below.refl w.heap.size w).alloc (Nat.le_refl _) (.cells #[.slice A v.cuts.length a, .slice B v.pts.length bb, .int .i64 v.non] 59)
  have k1 := Blk.new w #[.slice A v.cuts.length a, .slice B v.pts.length bb, .int .i64 v.non] 59
  have k1c := k1.cell
  obtain ⟨l1, l2e, _, _, _⟩ := sclB_iff.1 hv
  have l2 : v.cuts.length < v.pts.length := by omega
  clear l2e
  by_cases hx : x = -1
  · have Hv : Hid (onScl v x = v.non) := Lib.hid (by unfold onScl; rw [if_pos hx])
    have e1 : (x == -1) = true := by simp [hx]
    have Hx := Lib.hid hx
    clear h hp hv hx
    go_enter Tryz.func111, Tryz.ntmps111
    go_wp2_with fail
    go_ret
    exact ⟨by rw [Hv.out]; rfl, b1⟩
  · have HV : Hid (onScl v x = v.pts.getD (cntLe v.cuts x) 0) := Lib.hid (by unfold onScl; rw [if_neg hx])
    have e1 : (x == -1) = false := by simpa using hx
    have h1 := h.later b1
    have h1p := hp.later b1
    clear hx hv h hp
    go_enter Tryz.func111, Tryz.ntmps111
    go_wp2_with fail
    generalize hW1 : w.alloc (.cells #[.slice A v.cuts.length a, .slice B v.pts.length bb, .int .i64 v.non] 59) = W1 at *
    clear hW1 k1c
    go_loopw [5, 6] (fun nn ii wr => ∃ i n : Nat, i ≤ v.cuts.length ∧ n ≤ i ∧ nn = .int .i64 n ∧ ii = .int .i64 i ∧ Hid (cntLe (v.cuts.take i) x = n) ∧ W1 = wr) (fun _ ii _ => v.cuts.length - (vInt ii).toNat)
    case atStart => exact ⟨0, 0, Nat.zero_le _, Nat.le_refl _, rfl, rfl, Lib.hid rfl, rfl⟩
    case round =>
      obtain ⟨i, n, hi, hni, rfl, rfl, hN, rfl⟩ := hrel
      have k1c := k1.cell
      by_cases hlt : i < v.cuts.length
      · have hil : (i : Int) < (v.cuts.length : Int) := by omega
        obtain ⟨b, off, rfl, hb, c0⟩ := ints_at h1 hlt
        have HT : Hid (cntLe (v.cuts.take (i + 1)) x = n + (if v.cuts[i] ≤ x then 1 else 0)) := Lib.hid (by rw [List.take_succ_eq_append_getElem hlt, cntLe_snoc, hN.out])
        generalize v.cuts[i] = y at *
        by_cases hy : y ≤ x
        · have HJ : Hid (cntLe (v.cuts.take (i + 1)) x = n + 1) := Lib.hid (by rw [HT.out, if_pos hy])
          clear HT hN
          go_wp2_with fail
          go_roundw
          case rel => exact ⟨i + 1, n + 1, by omega, by omega, by go_num, by go_num, HJ, by first | rfl | trivial⟩
          case measure => simp [vInt]; omega
        · have HJ : Hid (cntLe (v.cuts.take (i + 1)) x = n) := Lib.hid (by rw [HT.out, if_neg hy]; rfl)
          clear HT hN
          go_wp2_with fail
          go_roundw
          case rel => exact ⟨i + 1, n, by omega, by omega, rfl, by go_num, HJ, by first | rfl | trivial⟩
          case measure => simp [vInt]; omega
      · have hil : ¬ (i : Int) < (v.cuts.length : Int) := by omega
        obtain rfl : i = v.cuts.length := by omega
        have hn := hN.out
        rw [List.take_length] at hn
        have hnl : n < v.pts.length := by omega
        obtain ⟨b, off, rfl, hb, c0⟩ := ints_at h1p hnl
        have Hv : Hid (onScl v x = v.pts[n]) := Lib.hid (by rw [HV.out, hn, getD_lt _ _ hnl])
        have hnl2 : (n : Int) < (v.pts.length : Int) := by omega
        clear hN hn HV
        generalize v.pts[n] = y at *
        go_wp2_with fail
        go_ret
        exact ⟨by rw [Hv.out]; rfl, b1⟩
theorem onScale6_any (y : SclD) (x : Int) (w : World) (h : SclAt w w.heap.size y) (hv : sclB y.v = true) :
    Calls Tryz.prog 111 #[.agg #[.slice y.A y.v.cuts.length y.a, .slice y.B y.v.pts.length y.b, .int .i64 y.v.non], .int .i64 x] w fun e w' => e = .returned (.int .i64 (onScl y.v x)) ∧ Below w.heap.size w w' := onScale6_all y.v y.A y.B y.a y.b x w h.cuts h.pts hv

set_option maxRecDepth 100000 in
set_option maxHeartbeats 4000000 in
theorem onCard6_all (wt base : Int) (l : List SclD) (S : Option Addr) (s : Nat) (x : List Int) (A : Option Addr) (a : Nat) (w : World) (h : SclsAt w w.heap.size S l) (hx : IntsAt w w.heap.size A x) (hv : ∀ y ∈ l, sclB y.v = true) (hb : ptB base = true) (hl : l.length ≤ 10) (hlx : l.length = x.length) :
    Calls Tryz.prog 96 #[.agg #[.int .i64 wt, .int .i64 base, .slice S l.length s], .slice A x.length a] w fun e w' => e = .returned (.int .i64 (onCrd ⟨wt, base, l.map SclD.v⟩ x)) ∧ Below w.heap.size w w' := by
  have b1 := (Below.refl w.heap.size w).alloc (Nat.le_refl _) (.cells #[.int .i64 wt, .int .i64 base, .slice S l.length s] 57)
  have k1 := Blk.new w #[.int .i64 wt, .int .i64 base, .slice S l.length s] 57
  have g1 := k1.lt
  have k1c := k1.cell
  have HV : Hid (onCrd ⟨wt, base, l.map SclD.v⟩ x = base + sclsUp (l.map SclD.v) x l.length) := Lib.hid (by unfold onCrd; simp)
  have HS : Hid (∀ k, k < l.length → sclsUp (l.map SclD.v) x (k + 1) = sclsUp (l.map SclD.v) x k + onScl ((l[k]?.getD default).v) (x.getD k 0)) := Lib.hid (fun k hk => by
    show sclsUp (l.map SclD.v) x k + onScl ((l.map SclD.v).getD k default) (x.getD k 0) = _
    rw [getD_lt _ _ (by simpa using hk)]
    simp [hk])
  have hsv : ∀ s ∈ l.map SclD.v, sclB s = true := fun s hs => by
    obtain ⟨y, hy, rfl⟩ := List.mem_map.1 hs
    exact hv y hy
  have HB := Lib.hid (fun k (hk : k ≤ l.length) => sclsUp_bound hsv x k (by simpa using hk))
  have hbb := ptB_iff.1 hb
  have h1 := h.later b1
  have h1x := hx.later b1
  have hlx1 : l.length ≤ x.length := by omega
  have hv2 := hv
  clear h hx hsv hb hlx
  generalize onCrd ⟨wt, base, l.map SclD.v⟩ x = V at *
  go_enter Tryz.func96, Tryz.ntmps96
  go_wp2_with fail
  generalize hW1 : w.alloc (.cells #[.int .i64 wt, .int .i64 base, .slice S l.length s] 57) = W1 at *
  clear hW1 k1c
  go_loopw [5, 6] (fun zz ii wr => ∃ (i : Nat) (z : Int), i ≤ l.length ∧ zz = .int .i64 z ∧ ii = .int .i64 i ∧ Hid (z = base + sclsUp (l.map SclD.v) x i) ∧ Hid (Below W1.heap.size W1 wr)) (fun _ ii _ => l.length - (vInt ii).toNat)
  case atStart => exact ⟨0, base, Nat.zero_le _, rfl, rfl, Lib.hid (by simp [sclsUp]), Lib.hid (Below.refl _ _)⟩
  case round =>
    obtain ⟨i, z, hi, rfl, rfl, hZ, hBh⟩ := hrel
    have hB := hBh.out
    have k2 := k1.below hB g1
    have b2 := b1.trans (hB.mono b1.size)
    have k2c := k2.cell
    by_cases hlt : i < l.length
    · have hil : (i : Int) < (l.length : Int) := by omega
      have hil2 : (i : Int) < (x.length : Int) := by omega
      have h2 := h1.later hB
      obtain ⟨b, off, rfl, hb, c0, c1, c2⟩ := scls_at h2.row hlt
      obtain ⟨bx, offx, rfl, hbx, cx⟩ := ints_at (h1x.later hB) (show i < x.length by omega)
      have hmem := List.getElem_mem hlt
      have hbd := HB.out i (by omega)
      have hbo := onScl_bound (hv2 _ hmem) x[i]
      have HN : Hid (sclsUp (l.map SclD.v) x (i + 1) = sclsUp (l.map SclD.v) x i + onScl l[i].v x[i]) := Lib.hid (by rw [HS.out i hlt, getD_lt x 0 (by omega)]; simp [hlt])
      have hzv := hZ.out
      have hwr : IntKind.i64.wrap (z + onScl l[i].v x[i]) = z + onScl l[i].v x[i] := IntWalk.i64_in _ (by omega)
      have GC : Hid (∀ q : After wr.heap.size wr, Calls Tryz.prog 111 #[.agg #[.slice l[i].A l[i].v.cuts.length l[i].a, .slice l[i].B l[i].v.pts.length l[i].b, .int .i64 l[i].v.non], .int .i64 x[i]] q.val fun e w' => e = .returned (.int .i64 (onScl l[i].v x[i])) ∧ Below q.val.heap.size q.val w') := Lib.hid (fun q => onScale6_any l[i] x[i] q.val ((h2.each _ hmem).later q.property) (hv2 _ hmem))
      have HJ : Hid (z + onScl l[i].v x[i] = base + sclsUp (l.map SclD.v) x (i + 1)) := Lib.hid (by rw [HN.out, hzv]; omega)
      have k2a := After.cells (B := wr.heap.size) k2.cell k2.lt
      have d0 := After.cell (B := wr.heap.size) c0 hb
      have d1 := After.cell (B := wr.heap.size) c1 hb
      have d2 := After.cell (B := wr.heap.size) c2 hb
      have dx := After.cell (B := wr.heap.size) cx hbx
      clear hbd hbo HN hzv hZ hmem h2 c0 c1 c2 cx hBh
      generalize onScl l[i].v x[i] = o at *
      generalize l[i] = y at *
      generalize x[i] = xv at *
      go_upto_region 5 with fail
      refine wp_region_class_lit (C := fun w' => ∃ z : After wr.heap.size wr, w' = z.val) (by kernel_rfl) (by kernel_rfl) ⟨⟨_, (Below.refl _ _).drew⟩, rfl⟩ ?_
      repeat (go_big_quiet_step ((first
        | (go_at_call 111; with_reducible exact after_of (Nat.le_refl _) _ (GC.out _)))))
      refine wpQuiet_nil ?_
      intro wq hw'
      obtain ⟨⟨wz, hz⟩, hw''⟩ := hw'
      dsimp only at hw''
      subst hw''
      go_wp2_with fail
      go_roundw
      case rel => exact ⟨i + 1, z + o, by omega, rfl, by go_num, HJ, Lib.hid (hB.trans (hz.mono hB.size))⟩
      case measure => simp [vInt]; omega
    · have hil : ¬ (i : Int) < (l.length : Int) := by omega
      obtain rfl : i = l.length := by omega
      have Hv : Hid (V = z) := Lib.hid (by rw [HV.out, hZ.out])
      clear hZ hBh
      go_wp2_with fail
      go_ret
      exact ⟨by rw [Hv.out]; rfl, b2⟩
theorem onCard6_any (c : CrdD) (x : List Int) (A : Option Addr) (a : Nat) (w : World) (h : SclsAt w w.heap.size c.S c.scales) (hx : IntsAt w w.heap.size A x) (hv : crdB x.length c.v = true) (hl : x.length ≤ 10) :
    Calls Tryz.prog 96 #[.agg #[.int .i64 c.weight, .int .i64 c.base, .slice c.S c.scales.length c.s], .slice A x.length a] w fun e w' => e = .returned (.int .i64 (onCrd c.v x)) ∧ Below w.heap.size w w' := by
  unfold crdB at hv
  simp only [Bool.and_eq_true, decide_eq_true_eq, List.all_eq_true] at hv
  obtain ⟨⟨⟨_, h2⟩, h3⟩, h4⟩ := hv
  have e : c.scales.length = x.length := by
    have : (c.v.scales.length : Int) = x.length := h3
    simp only [CrdD.v, List.length_map] at this
    omega
  exact onCard6_all c.weight c.base c.scales c.S c.s x A a w h hx (fun y hy => h4 _ (List.mem_map_of_mem hy)) h2 (by omega) e

theorem treGo_leaf {l : List Nod} {x : List Int} {f a : Nat} (h : (l.getD a default).tr = -1) : treGo l x (f + 1) a = (l.getD a default).pts := by rw [treGo, if_pos h]
theorem treGo_node {l : List Nod} {x : List Int} {f a : Nat} (h : ¬ (l.getD a default).tr = -1) : treGo l x (f + 1) a = if x.getD (l.getD a default).tr.toNat 0 < (l.getD a default).cut then treGo l x f (l.getD a default).low.toNat else treGo l x f (l.getD a default).high.toNat := by rw [treGo, if_neg h]
/-- A node that is no leaf. -/
theorem nodB_inner {n : Nat} {traits : Int} {i : Nat} {x : Nod} (h : nodB n traits i x = true) (ht : ¬ x.tr = -1) : 0 ≤ x.tr ∧ x.tr < traits ∧ (i : Int) + 1 ≤ x.low ∧ x.low < n ∧ (i : Int) + 1 ≤ x.high ∧ x.high < n := by
  rw [nodB_node ht] at h
  simp only [Bool.and_eq_true, inN_iff] at h
  omega

set_option maxRecDepth 100000 in
set_option maxHeartbeats 4000000 in
theorem onTree6_all (wt : Int) (l : List Nod) (T : Option Addr) (t : Nat) (x : List Int) (A : Option Addr) (a : Nat) (w : World) (h : NodsAt w w.heap.size T l) (hx : IntsAt w w.heap.size A x) (hv : ∀ i, i < l.length → nodB l.length x.length i (l.getD i default) = true) (hl : 1 ≤ l.length) (hl2 : l.length ≤ 20) (_hxl : x.length ≤ 10) :
    Calls Tryz.prog 97 #[.agg #[.int .i64 wt, .slice T l.length t], .slice A x.length a] w fun e w' => e = .returned (.int .i64 (onTre ⟨wt, l⟩ x)) ∧ Below w.heap.size w w' := by
  have b1 := (Below.refl w.heap.size w).alloc (Nat.le_refl _) (.cells #[.int .i64 wt, .slice T l.length t] 41)
  have k1 := Blk.new w #[.int .i64 wt, .slice T l.length t] 41
  have g1 := k1.lt
  have k1c := k1.cell
  have HV : Hid (onTre ⟨wt, l⟩ x = treGo l x l.length 0) := Lib.hid rfl
  have h1 := h.later b1
  have h1x := hx.later b1
  clear h hx
  generalize onTre ⟨wt, l⟩ x = V at *
  go_enter Tryz.func97, Tryz.ntmps97
  go_wp2_with fail
  generalize hW1 : w.alloc (.cells #[.int .i64 wt, .slice T l.length t] 41) = W1 at *
  clear hW1 k1c
  go_loopw [5] (fun ii wr => ∃ i : Nat, i < l.length ∧ ii = .int .i64 i ∧ Hid ((∃ f, treGo l x f i = V ∧ l.length ≤ i + f) ∧ Below W1.heap.size W1 wr)) (fun ii _ => l.length - (vInt ii).toNat)
  case atStart => exact ⟨0, by omega, rfl, Lib.hid ⟨⟨l.length, HV.out.symm, by omega⟩, Below.refl _ _⟩⟩
  case round =>
    obtain ⟨i, hlt, rfl, hR⟩ := hrel
    obtain ⟨⟨f0, hf, hfl⟩, hB⟩ := hR.out
    have k2 := k1.below hB g1
    have b2 := b1.trans (hB.mono b1.size)
    have k2c := k2.cell
    have hil : (i : Int) < (l.length : Int) := by omega
    obtain ⟨b, off, rfl, hb, c0, c1, c2, c3, c4⟩ := nods_at (h1.later hB) hlt
    have hnv := hv i hlt
    have hge := getD_lt l default hlt
    rw [hge] at hnv
    obtain ⟨f, rfl⟩ : ∃ f, f0 = f + 1 := ⟨f0 - 1, by omega⟩
    by_cases ht : l[i].tr = -1
    · have e1 : (l[i].tr != -1) = false := by simp [ht]
      have Hv : Hid (V = l[i].pts) := Lib.hid (by rw [← hf, treGo_leaf (by rw [hge]; exact ht), hge])
      clear hf hge hnv hR ht HV
      generalize l[i] = y at *
      go_wp2_with fail
      go_ret
      exact ⟨by rw [Hv.out]; rfl, b2⟩
    · have e1 : (l[i].tr != -1) = true := by simpa using ht
      obtain ⟨n1, n2, n3, n4, n5, n6⟩ := nodB_inner hnv ht
      have HF : Hid (V = if x.getD l[i].tr.toNat 0 < l[i].cut then treGo l x f l[i].low.toNat else treGo l x f l[i].high.toNat) := Lib.hid (by rw [← hf, treGo_node (by rw [hge]; exact ht), hge])
      clear hf hge hnv hR ht HV
      generalize l[i] = y at *
      obtain ⟨tr, cut, low, high, pts⟩ := y
      dsimp only at *
      obtain ⟨tn, rfl⟩ := Int.eq_ofNat_of_zero_le n1
      obtain ⟨ln, rfl⟩ := Int.eq_ofNat_of_zero_le (show 0 ≤ low by omega)
      obtain ⟨hn, rfl⟩ := Int.eq_ofNat_of_zero_le (show 0 ≤ high by omega)
      rw [Int.toNat_natCast, Int.toNat_natCast, Int.toNat_natCast] at HF
      have htx : tn < x.length := by omega
      obtain ⟨bx, offx, rfl, hbx, cx⟩ := ints_at (h1x.later hB) htx
      rw [getD_lt x 0 htx] at HF
      generalize x[tn] = xv at *
      have k3 := k2.alloc (.cells #[.int .i64 tn, .int .i64 cut, .int .i64 ln, .int .i64 hn, .int .i64 pts] 38)
      have kn := Blk.new wr #[.int .i64 tn, .int .i64 cut, .int .i64 ln, .int .i64 hn, .int .i64 pts] 38
      have b3 := b2.alloc b2.size (.cells #[.int .i64 tn, .int .i64 cut, .int .i64 ln, .int .i64 hn, .int .i64 pts] 38)
      have ba := (Below.refl wr.heap.size wr).alloc (Nat.le_refl _) (.cells #[.int .i64 tn, .int .i64 cut, .int .i64 ln, .int .i64 hn, .int .i64 pts] 38)
      have cx2 := (ba.cell (p := ⟨bx, offx + tn, none⟩) hbx).trans cx
      have hbx2 : bx < (wr.alloc (.cells #[.int .i64 tn, .int .i64 cut, .int .i64 ln, .int .i64 hn, .int .i64 pts] 38)).heap.size := Nat.lt_of_lt_of_le hbx ba.size
      have hB3 := hB.alloc hB.size (.cells #[.int .i64 tn, .int .i64 cut, .int .i64 ln, .int .i64 hn, .int .i64 pts] 38)
      have gk := k2.lt
      go_upto_region 4 with fail
      generalize hW3 : wr.alloc (.cells #[.int .i64 tn, .int .i64 cut, .int .i64 ln, .int .i64 hn, .int .i64 pts] 38) = W3 at *
      clear hW3 k2c c0 c1 c2 c3 c4
      have kna := After.cells (B := W3.heap.size) kn.cell kn.lt
      have dx := After.cell (B := W3.heap.size) cx2 hbx2
      have knc := kn.cell
      by_cases hlc : xv < cut
      · have HJ : Hid (treGo l x f ln = V) := Lib.hid (by rw [HF.out, if_pos hlc])
        clear HF
        refine wp_region_class_lit (C := fun w' => ∃ z : After W3.heap.size W3, w' = z.val) (by kernel_rfl) (by kernel_rfl) ⟨⟨_, (Below.refl _ _).drew⟩, rfl⟩ ?_
        repeat (go_big_quiet_step (fail))
        refine wpQuiet_nil ?_
        intro wq hw'
        obtain ⟨⟨wz, hz⟩, hw''⟩ := hw'
        dsimp only at hw''
        subst hw''
        have knq := (kn.below hz kn.lt).cell
        go_wp2_with fail
        go_roundw
        case rel => exact ⟨ln, by omega, rfl, Lib.hid ⟨⟨f, HJ.out, by omega⟩, hB3.trans (hz.mono hB3.size)⟩⟩
        case measure => simp [vInt]; omega
      · have HJ : Hid (treGo l x f hn = V) := Lib.hid (by rw [HF.out, if_neg hlc])
        clear HF
        refine wp_region_class_lit (C := fun w' => ∃ z : After W3.heap.size W3, w' = z.val) (by kernel_rfl) (by kernel_rfl) ⟨⟨_, (Below.refl _ _).drew⟩, rfl⟩ ?_
        repeat (go_big_quiet_step (fail))
        refine wpQuiet_nil ?_
        intro wq hw'
        obtain ⟨⟨wz, hz⟩, hw''⟩ := hw'
        dsimp only at hw''
        subst hw''
        have knq := (kn.below hz kn.lt).cell
        go_wp2_with fail
        go_roundw
        case rel => exact ⟨hn, by omega, rfl, Lib.hid ⟨⟨f, HJ.out, by omega⟩, hB3.trans (hz.mono hB3.size)⟩⟩
        case measure => simp [vInt]; omega
theorem onTree6_any (y : TreD) (x : List Int) (A : Option Addr) (a : Nat) (w : World) (h : NodsAt w w.heap.size y.T y.v.nodes) (hx : IntsAt w w.heap.size A x) (hv : treB x.length y.v = true) (hxl : x.length ≤ 10) :
    Calls Tryz.prog 97 #[.agg #[.int .i64 y.v.weight, .slice y.T y.v.nodes.length y.t], .slice A x.length a] w fun e w' => e = .returned (.int .i64 (onTre y.v x)) ∧ Below w.heap.size w w' := by
  unfold treB at hv
  simp only [Bool.and_eq_true, inN_iff, rangeB_iff] at hv
  exact onTree6_all y.v.weight y.v.nodes y.T y.t x A a w h hx hv.2 (by omega) (by omega) hxl
end Go.Proofs.YtkimojiakabbcaaGreat
