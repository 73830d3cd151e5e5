/- The model's points and score, by the program. Written by a program. -/
import Derived.Test.YtpahcbhikmfamaaGreatSPrg5
import Derived.Test.YtpahcbhikmfamaaGreatWQ2

namespace Go.Proofs.YtpahcbhikmfamaaGreat
open Go.RowKit Go.Maps

structure ShD where
  weight : Int
  base : Int
  parts : List PartD
  P : Option Addr
  p : Nat
def shC (y : ShD) : List Value := [.int .i64 y.weight, .int .i64 y.base, .slice y.P y.parts.length y.p]
theorem shC_len (y : ShD) : (shC y).length = 3 := rfl
theorem shC_one (y : ShD) : ∀ u ∈ shC y, u.oneCell' = true := fun u hu => by
  simp only [shC, List.mem_cons, List.not_mem_nil, or_false] at hu
  rcases hu with rfl | rfl | rfl <;> rfl
structure SharesAt (w : World) (B : Nat) (S : Option Addr) (l : List ShD) : Prop where
  row : Flat 3 shC w B S l
  each : ∀ y ∈ l, PartsAt w B y.P y.parts
theorem SharesAt.later {w w' : World} {S : Option Addr} {l : List ShD} (h : SharesAt w w.heap.size S l) (hb : Below w.heap.size w w') : SharesAt w' w'.heap.size S l := ⟨h.row.later hb, fun x hx => (h.each x hx).later hb⟩
theorem shs_at {w : World} {B : Nat} {A : Option Addr} {l : List ShD} (h : Flat 3 shC w B A l) {k : Nat} (hk : k < l.length) : ∃ b off, A = some ⟨b, off, none⟩ ∧ b < B ∧ w.cell? ⟨b, off + k * 3, none⟩ = some (.int .i64 l[k].weight) ∧ w.cell? ⟨b, off + k * 3 + 1, none⟩ = some (.int .i64 l[k].base) ∧ w.cell? ⟨b, off + k * 3 + 2, none⟩ = some (.slice l[k].P l[k].parts.length l[k].p) := by
  obtain ⟨b, off, e, h1, h2⟩ := h k hk
  exact ⟨b, off, e, h1, h2 0 (by omega), h2 1 (by omega), h2 2 (by omega)⟩
structure ShOk (n : Nat) (y : ShD) : Prop where
  base : ptB y.base = true
  weight : 0 ≤ y.weight ∧ y.weight ≤ 1000
  len : y.parts.length ≤ 10
  parts : ∀ q ∈ y.parts, PartOk n q
def shPts (x : List Int) (y : ShD) : Int := y.base + sumL (y.parts.map (onPart x))
theorem shPts_bound {x : List Int} {y : ShD} (h : ShOk x.length y) : -11000000 ≤ shPts x y ∧ shPts x y ≤ 11000000 := by
  have h1 := ptB_iff.1 h.base
  have h2 := sumL_parts_bound h.parts y.parts.length (Nat.le_refl _)
  rw [List.take_length] at h2
  have h3 := h.len
  unfold shPts
  omega
theorem shareP_any (y : ShD) (x : List Int) (X : Option Addr) (xc : Nat) (w : World) (h : PartsAt w w.heap.size y.P y.parts) (hx : IntsAt w w.heap.size X x) (hok : ShOk x.length y) (hxl : x.length ≤ 10) :
    Calls Tryz.prog 31 #[.agg #[.int .i64 y.weight, .int .i64 y.base, .slice y.P y.parts.length y.p], .slice X x.length xc] w fun e w' => e = .returned (.int .i64 (shPts x y)) ∧ Below w.heap.size w w' := shareP_all y.weight y.base y.parts y.P y.p x X xc w h hx hok.parts hok.base hok.len hxl

set_option maxRecDepth 100000 in
set_option maxHeartbeats 8000000 in
theorem pointsP_any (traits need : Int) (C T S : Option Addr) (cl c tl t s : Nat) (l : List ShD) (x : List Int) (X : Option Addr) (xc : Nat) (w : World) (h : SharesAt w w.heap.size S l) (hx : IntsAt w w.heap.size X x) (hok : ∀ y ∈ l, ShOk x.length y) (hl : l.length ≤ 10) (hxl : x.length ≤ 10) :
    Calls Tryz.prog 21 #[.agg #[.int .i64 traits, .slice C cl c, .slice T tl t, .int .i64 need, .slice S l.length s], .slice X x.length xc] w fun e w' => ∃ A' c', e = .returned (.slice A' l.length c') ∧ w'.ownsRow w.heap.size 3 1 (.slice A' l.length c') l.length ((l.map (shPts x)).flatMap intC) ∧ Below w.heap.size w w' := by
  obtain ⟨i0, hi0, hz0, hz1, hz2⟩ := info_parts intInfo
  have b1 := (Below.refl w.heap.size w).alloc (Nat.le_refl _) (.cells #[.int .i64 traits, .slice C cl c, .slice T tl t, .int .i64 need, .slice S l.length s] 66)
  have k1 := Blk.new w #[.int .i64 traits, .slice C cl c, .slice T tl t, .int .i64 need, .slice S l.length s] 66
  have g1 := k1.lt
  have k1c := k1.cell
  have b1s := b1.size
  have h1 := h.later b1
  have h1x := hx.later b1
  clear h hx
  have H1 := Lib.hid h1
  have H1x := Lib.hid h1x
  have HK := Lib.hid hok
  clear h1 h1x hok
  go_enter Tryz.func21, Tryz.ntmps21
  go_wp2_with fail
  generalize hW1 : w.alloc (.cells #[.int .i64 traits, .slice C cl c, .slice T tl t, .int .i64 need, .slice S l.length s] 66) = W1 at *
  clear hW1 k1c
  go_loopw [5, 11] (fun vv ii wr => ∃ (i : Nat) (A2 : Option Addr) (c2 : Nat), i ≤ l.length ∧ vv = .slice A2 i c2 ∧ ii = .int .i64 i ∧ Hid (wr.ownsRow W1.heap.size 3 1 (.slice A2 i c2) i (((l.take i).map (shPts x)).flatMap intC) ∧ Below W1.heap.size W1 wr)) (fun _ ii _ => l.length - (vInt ii).toNat)
  case atStart => exact ⟨0, none, 0, Nat.zero_le _, rfl, rfl, Lib.hid ⟨World.ownsRow_nil _ _ _ _, Below.refl _ _⟩⟩
  case round =>
    obtain ⟨i, A2, c2, hi, rfl, rfl, hR⟩ := hrel
    obtain ⟨hO, hB⟩ := hR.out
    have b2 := b1.trans (hB.mono b1s)
    have hzw : w.heap.size ≤ wr.heap.size := b2.size
    by_cases hlt : i < l.length
    · have hil : (i : Int) < (l.length : Int) := by omega
      have h2 := H1.out.later hB
      obtain ⟨b, off, rfl, hb, c0, c1, c2'⟩ := shs_at h2.row hlt
      have hmem := List.getElem_mem hlt
      have ba := (Below.refl wr.heap.size wr).alloc (Nat.le_refl _) (.cells #[.int .i64 l[i].weight, .int .i64 l[i].base, .slice l[i].P l[i].parts.length l[i].p] 83)
      have HCd := Lib.hid (shareP_any l[i] x X xc _ ((h2.each _ hmem).later ba) ((H1x.out.later hB).later ba) (HK.out _ hmem) hxl)
      have HT1 : Hid (((l.take (i + 1)).map (shPts x)).flatMap intC = ((l.take i).map (shPts x)).flatMap intC ++ intC (shPts x l[i])) := Lib.hid (by rw [List.take_succ_eq_append_getElem hlt, List.map_append, List.flatMap_append]; simp)
      have HO := Lib.hid (hO.alloc (.cells #[.int .i64 l[i].weight, .int .i64 l[i].base, .slice l[i].P l[i].parts.length l[i].p] 83))
      have knc := (Blk.new wr #[.int .i64 l[i].weight, .int .i64 l[i].base, .slice l[i].P l[i].parts.length l[i].p] 83).cell
      have bas := ba.size
      have HB3 := Lib.hid (hB.trans (ba.mono hB.size))
      have hBs := hB.size
      clear hR hO h2 hmem
      generalize shPts x l[i] = o at *
      generalize l[i] = y at *
      go_upto_region 5 with fail
      generalize hW3 : wr.alloc (.cells #[.int .i64 y.weight, .int .i64 y.base, .slice y.P y.parts.length y.p] 83) = W3 at *
      clear hW3 c0 c1 c2'
      go_wp2_with (first
        | (go_at_call 31; (with_reducible refine (HCd.out).mono ?_); rintro e w5 ⟨rfl, h5⟩; have hownA := (own_below HO.out h5).alloc (.cells #[.int .i64 o] 3); have hb5 := (h5.alloc h5.size (.cells #[.int .i64 o] 3)); have hs5 := h5.size)
        | (at_builtin; refine wpList_append_own_at _ rfl _ _ 26 rfl W1.heap.size 3 i0 _ 1 8 Tryz.underlying26 hi0 hz0 hz1 hz2 rfl (by decide) _ _ _ rfl hownA ⟨w5.heap.size, 0, none⟩ 1 1 (intC o) rfl rfl (int_new w5 o 3) (intC_one _) (by unfold maxLen; omega) (by omega) (by simp; omega) ?_; intro v' w6 hown6 hg6 _ _; obtain ⟨A3, c3, rfl⟩ := own_slice hown6))
      go_roundw
      case rel => exact ⟨i + 1, A3, c3, by omega, rfl, by go_num, Lib.hid ⟨by rw [HT1.out]; exact hown6, HB3.out.trans ((hb5.mono (by omega)).grown hg6 (by simp; omega) (fun k e => by have := (hownA.lt k e).1; omega))⟩⟩
      case measure => simp [vInt]; omega
    · have hil : ¬ (i : Int) < (l.length : Int) := by omega
      obtain rfl : i = l.length := by omega
      have HO3 := Lib.hid hO
      clear hR hO
      go_wp2_with fail
      go_ret
      have hO4 := HO3.out
      rw [List.take_length] at hO4
      exact ⟨A2, c2, rfl, own_base hO4 b1s, b2⟩
set_option maxRecDepth 100000 in
set_option maxHeartbeats 8000000 in
theorem scoreP_any (traits need : Int) (C T S : Option Addr) (cl c tl t s : Nat) (l : List ShD) (x : List Int) (X : Option Addr) (xc : Nat) (w : World) (h : SharesAt w w.heap.size S l) (hx : IntsAt w w.heap.size X x) (hok : ∀ y ∈ l, ShOk x.length y) (hl : l.length ≤ 10) (hxl : x.length ≤ 10) :
    Calls Tryz.prog 19 #[.agg #[.int .i64 traits, .slice C cl c, .slice T tl t, .int .i64 need, .slice S l.length s], .slice X x.length xc] w fun e w' => e = .returned (.int .i64 (sumL (l.map fun y => y.weight * shPts x y))) ∧ Below w.heap.size w w' := by
  have b1 := (Below.refl w.heap.size w).alloc (Nat.le_refl _) (.cells #[.int .i64 traits, .slice C cl c, .slice T tl t, .int .i64 need, .slice S l.length s] 66)
  have k1 := Blk.new w #[.int .i64 traits, .slice C cl c, .slice T tl t, .int .i64 need, .slice S l.length s] 66
  have g1 := k1.lt
  have k1c := k1.cell
  have b1s := b1.size
  have h1 := h.later b1
  have h1x := hx.later b1
  clear h hx
  have H1 := Lib.hid h1
  have H1x := Lib.hid h1x
  have HK := Lib.hid hok
  clear h1 h1x hok
  have HV : Hid (sumL (l.map fun y => y.weight * shPts x y) = sumL ((l.take l.length).map fun y => y.weight * shPts x y)) := Lib.hid (by rw [List.take_length])
  generalize sumL (l.map fun y => y.weight * shPts x y) = V at *
  go_enter Tryz.func19, Tryz.ntmps19
  go_wp2_with fail
  generalize hW1 : w.alloc (.cells #[.int .i64 traits, .slice C cl c, .slice T tl t, .int .i64 need, .slice S l.length s] 66) = W1 at *
  clear hW1 k1c
  go_loopw [5, 11] (fun zz ii wr => ∃ (i : Nat) (z : Int), i ≤ l.length ∧ zz = .int .i64 z ∧ ii = .int .i64 i ∧ Hid (z = sumL ((l.take i).map fun y => y.weight * shPts x y)) ∧ Hid (Below W1.heap.size W1 wr)) (fun _ ii _ => l.length - (vInt ii).toNat)
  case atStart => exact ⟨0, 0, Nat.zero_le _, rfl, rfl, Lib.hid (by simp [sumL]), Lib.hid (Below.refl _ _)⟩
  case round =>
    obtain ⟨i, z, hi, rfl, rfl, hZ, hBh⟩ := hrel
    have hB := hBh.out
    have b2 := b1.trans (hB.mono b1s)
    by_cases hlt : i < l.length
    · have hil : (i : Int) < (l.length : Int) := by omega
      have h2 := H1.out.later hB
      obtain ⟨b, off, rfl, hb, c0, c1, c2'⟩ := shs_at h2.row hlt
      have hmem := List.getElem_mem hlt
      have ba := (Below.refl wr.heap.size wr).alloc (Nat.le_refl _) (.cells #[.int .i64 l[i].weight, .int .i64 l[i].base, .slice l[i].P l[i].parts.length l[i].p] 83)
      have HCd := Lib.hid (fun q : After (wr.alloc (.cells #[.int .i64 l[i].weight, .int .i64 l[i].base, .slice l[i].P l[i].parts.length l[i].p] 83)).heap.size (wr.alloc (.cells #[.int .i64 l[i].weight, .int .i64 l[i].base, .slice l[i].P l[i].parts.length l[i].p] 83)) => shareP_any l[i] x X xc q.val (((h2.each _ hmem).later ba).later q.property) (((H1x.out.later hB).later ba).later q.property) (HK.out _ hmem) hxl)
      have hzb := sumL_bound ((l.take i).map fun y => y.weight * shPts x y) (fun z hz => by
        obtain ⟨q, hq, rfl⟩ := List.mem_map.1 hz
        have hqo := HK.out q (List.mem_of_mem_take hq)
        exact mul_bound hqo.weight (shPts_bound hqo))
      rw [List.length_map, List.length_take, Nat.min_eq_left (by omega)] at hzb
      have hpb := mul_bound (HK.out _ hmem).weight (shPts_bound (HK.out _ hmem))
      have HN : Hid (sumL ((l.take (i + 1)).map fun y => y.weight * shPts x y) = sumL ((l.take i).map fun y => y.weight * shPts x y) + l[i].weight * shPts x l[i]) := Lib.hid (by rw [List.take_succ_eq_append_getElem hlt, List.map_append, List.map_singleton, sumL_snoc])
      have hzv := hZ.out
      rw [← hzv] at hzb
      have hw1 : IntKind.i64.wrap (l[i].weight * shPts x l[i]) = l[i].weight * shPts x l[i] := IntWalk.i64_in _ (by omega)
      have hw2 : IntKind.i64.wrap (z + l[i].weight * shPts x l[i]) = z + l[i].weight * shPts x l[i] := IntWalk.i64_in _ (by omega)
      have HJ : Hid (z + l[i].weight * shPts x l[i] = sumL ((l.take (i + 1)).map fun y => y.weight * shPts x y)) := Lib.hid (by rw [HN.out, hzv])
      have kn := Blk.new wr #[.int .i64 l[i].weight, .int .i64 l[i].base, .slice l[i].P l[i].parts.length l[i].p] 83
      have HB3 := Lib.hid (hB.trans (ba.mono hB.size))
      have bas := ba.size
      clear hzb hpb HN hzv hZ hmem h2 hBh
      generalize shPts x l[i] = o at *
      generalize l[i] = y at *
      go_upto_region 5 with fail
      generalize hW3 : wr.alloc (.cells #[.int .i64 y.weight, .int .i64 y.base, .slice y.P y.parts.length y.p] 83) = W3 at *
      clear hW3 c0 c1 c2'
      have kna := After.cells (B := W3.heap.size) kn.cell kn.lt
      refine wp_region_class_lit (C := fun w' => ∃ z : After W3.heap.size W3, w' = z.val) (by kernel_rfl) (by kernel_rfl) ⟨⟨_, (Below.refl _ _).drew⟩, rfl⟩ ?_
      repeat (go_big_quiet_step ((first
        | (go_at_call 31; with_reducible exact after_of (Nat.le_refl _) _ (HCd.out _)))))
      refine wpQuiet_nil ?_
      intro wq hw'
      obtain ⟨⟨wz, hz⟩, hw''⟩ := hw'
      dsimp only at hw''
      subst hw''
      go_wp2_with fail
      go_roundw
      case rel => exact ⟨i + 1, z + y.weight * o, by omega, rfl, by go_num, HJ, Lib.hid (HB3.out.trans (hz.mono HB3.out.size))⟩
      case measure => simp [vInt]; omega
    · have hil : ¬ (i : Int) < (l.length : Int) := by omega
      obtain rfl : i = l.length := by omega
      have Hv : Hid (V = z) := Lib.hid (by rw [HV.out, hZ.out])
      clear hZ hBh
      go_wp2_with fail
      go_ret
      exact ⟨by rw [Hv.out]; rfl, b2⟩
end Go.Proofs.YtpahcbhikmfamaaGreat
