/- The model's points and score, by the program. Written by a program. -/
import Derived.Test.YtijhbcmmoagdmaaBSaidP2
import Derived.Deep.RegionLawGrows
import Derived.Test.YtijhbcmmoagdmaaBSaidP1
import Derived.Laws.AppendOwnNone
import Derived.Deep.AppendSrc

namespace Go.Proofs.Ytijhbcmmoagdmaa
open Go.RowKit Go.Maps

structure ShD where
  weight : Int
  base : Int
  parts : List PartD
  P : Option Addr
  p : Nat
def shC (y : ShD) : List Value := [.int .i64 y.weight, .int .i64 y.base, .slice y.P y.parts.length y.p]
theorem shC_len (y : ShD) : (shC y).length = 3 := rfl
theorem shC_one (y : ShD) : ∀ u ∈ shC y, u.oneCell' = true := fun u hu => by
  simp only [shC, List.mem_cons, List.not_mem_nil, or_false] at hu
  rcases hu with rfl | rfl | rfl <;> rfl
structure SharesAt (w : World) (B : Nat) (S : Option Addr) (l : List ShD) : Prop where
  row : Flat 3 shC w B S l
  each : ∀ y ∈ l, PartsAt w B y.P y.parts
theorem SharesAt.later {w w' : World} {S : Option Addr} {l : List ShD} (h : SharesAt w w.heap.size S l) (hb : Below w.heap.size w w') : SharesAt w' w'.heap.size S l := ⟨h.row.later hb, fun x hx => (h.each x hx).later hb⟩
theorem shs_at {w : World} {B : Nat} {A : Option Addr} {l : List ShD} (h : Flat 3 shC w B A l) {k : Nat} (hk : k < l.length) : ∃ b off, A = some ⟨b, off, none⟩ ∧ b < B ∧ w.cell? ⟨b, off + k * 3, none⟩ = some (.int .i64 l[k].weight) ∧ w.cell? ⟨b, off + k * 3 + 1, none⟩ = some (.int .i64 l[k].base) ∧ w.cell? ⟨b, off + k * 3 + 2, none⟩ = some (.slice l[k].P l[k].parts.length l[k].p) := by
  obtain ⟨b, off, e, h1, h2⟩ := h k hk
  exact ⟨b, off, e, h1, h2 0 (by omega), h2 1 (by omega), h2 2 (by omega)⟩
structure ShOk (n : Nat) (y : ShD) : Prop where
  base : ptB y.base = true
  weight : 0 ≤ y.weight ∧ y.weight ≤ 1000
  len : y.parts.length ≤ 10
  parts : ∀ q ∈ y.parts, PartOk n q
def shPts (x : List Int) (y : ShD) : Int := y.base + sumL (y.parts.map (onPart x))
theorem shPts_bound {x : List Int} {y : ShD} (h : ShOk x.length y) : -11000000 ≤ shPts x y ∧ shPts x y ≤ 11000000 := by
  have h1 := ptB_iff.1 h.base
  have h2 := sumL_parts_bound h.parts y.parts.length (Nat.le_refl _)
  rw [List.take_length] at h2
  have h3 := h.len
  unfold shPts
  omega
theorem shareP_any (y : ShD) (x : List Int) (X : Option Addr) (xc : Nat) (w : World) (h : PartsAt w w.heap.size y.P y.parts) (hx : IntsAt w w.heap.size X x) (hok : ShOk x.length y) (hxl : x.length ≤ 10) :
    Calls Try.prog 36 #[.agg #[.int .i64 y.weight, .int .i64 y.base, .slice y.P y.parts.length y.p], .slice X x.length xc] w fun e w' => e = .returned (.int .i64 (shPts x y)) ∧ Below w.heap.size w w' := shareP_all y.weight y.base y.parts y.P y.p x X xc w h hx hok.parts hok.base hok.len hxl

set_option maxRecDepth 100000 in
set_option maxHeartbeats 8000000 in
theorem pointsP_any (traits need : Int) (C T S : Option Addr) (cl c tl t s : Nat) (l : List ShD) (x : List Int) (X : Option Addr) (xc : Nat) (w : World) (h : SharesAt w w.heap.size S l) (hx : IntsAt w w.heap.size X x) (hok : ∀ y ∈ l, ShOk x.length y) (hl : l.length ≤ 10) (hxl : x.length ≤ 10) :
    Calls Try.prog 22 #[.agg #[.int .i64 traits, .slice C cl c, .slice T tl t, .int .i64 need, .slice S l.length s], .slice X x.length xc] w fun e w' => ∃ A' c', e = .returned (.slice A' l.length c') ∧ w'.ownsRow w.heap.size 3 1 (.slice A' l.length c') l.length ((l.map (shPts x)).flatMap intC) ∧ Below w.heap.size w w' := by
  obtain ⟨i0, hi0, hz0, hz1, hz2⟩ := info_parts intInfo
  have b1 := (Below.refl w.heap.size w).alloc (Nat.le_refl _) (.cells #[.int .i64 traits, .slice C cl c, .slice T tl t, .int .i64 need, .slice S l.length s] 62)
  have k1 := Blk.new w #[.int .i64 traits, .slice C cl c, .slice T tl t, .int .i64 need, .slice S l.length s] 62
  have g1 := k1.lt
  have k1c := k1.cell
  have b1s := b1.size
  have h1 := h.later b1
  have h1x := hx.later b1
  clear h hx
  have H1 := Lib.hid h1
  have H1x := Lib.hid h1x
  have HK := Lib.hid hok
  clear h1 h1x hok
  go_enter Try.func22, Try.ntmps22
  go_wp2_with fail
  generalize hW1 : w.alloc (.cells #[.int .i64 traits, .slice C cl c, .slice T tl t, .int .i64 need, .slice S l.length s] 62) = W1 at *
  clear hW1 k1c
  go_loopw [5, 11] (fun vv ii wr => ∃ (i : Nat) (A2 : Option Addr) (c2 : Nat), i ≤ l.length ∧ vv = .slice A2 i c2 ∧ ii = .int .i64 i ∧ Hid (wr.ownsRow W1.heap.size 3 1 (.slice A2 i c2) i (((l.take i).map (shPts x)).flatMap intC) ∧ Below W1.heap.size W1 wr)) (fun _ ii _ => l.length - (vInt ii).toNat)
  case atStart => exact ⟨0, none, 0, Nat.zero_le _, rfl, rfl, Lib.hid ⟨World.ownsRow_nil _ _ _ _, Below.refl _ _⟩⟩
  case round =>
    obtain ⟨i, A2, c2, hi, rfl, rfl, hR⟩ := hrel
    obtain ⟨hO, hB⟩ := hR.out
    have b2 := b1.trans (hB.mono b1s)
    have hzw : w.heap.size ≤ wr.heap.size := b2.size
    by_cases hlt : i < l.length
    · have hil : (i : Int) < (l.length : Int) := by omega
      have h2 := H1.out.later hB
      obtain ⟨b, off, rfl, hb, c0, c1, c2'⟩ := shs_at h2.row hlt
      have hmem := List.getElem_mem hlt
      have ba := (Below.refl wr.heap.size wr).alloc (Nat.le_refl _) (.cells #[.int .i64 l[i].weight, .int .i64 l[i].base, .slice l[i].P l[i].parts.length l[i].p] 84)
      have HCd := Lib.hid (shareP_any l[i] x X xc _ ((h2.each _ hmem).later ba) ((H1x.out.later hB).later ba) (HK.out _ hmem) hxl)
      have HT1 : Hid (((l.take (i + 1)).map (shPts x)).flatMap intC = ((l.take i).map (shPts x)).flatMap intC ++ intC (shPts x l[i])) := Lib.hid (by rw [List.take_succ_eq_append_getElem hlt, List.map_append, List.flatMap_append]; simp)
      have HO := Lib.hid (hO.alloc (.cells #[.int .i64 l[i].weight, .int .i64 l[i].base, .slice l[i].P l[i].parts.length l[i].p] 84))
      have knc := (Blk.new wr #[.int .i64 l[i].weight, .int .i64 l[i].base, .slice l[i].P l[i].parts.length l[i].p] 84).cell
      have bas := ba.size
      have HB3 := Lib.hid (hB.trans (ba.mono hB.size))
      have hBs := hB.size
      clear hR hO h2 hmem
      generalize shPts x l[i] = o at *
      generalize l[i] = y at *
      go_upto_region 5 with fail
      generalize hW3 : wr.alloc (.cells #[.int .i64 y.weight, .int .i64 y.base, .slice y.P y.parts.length y.p] 84) = W3 at *
      clear hW3 c0 c1 c2'
      go_wp2_with (first
        | (go_at_call 36; (with_reducible refine (HCd.out).mono ?_); rintro e w5 ⟨rfl, h5⟩; have hownA := (own_below HO.out h5).alloc (.cells #[.int .i64 o] 3); have hb5 := (h5.alloc h5.size (.cells #[.int .i64 o] 3)); have hs5 := h5.size)
        | (at_builtin; refine wpList_append_own_at _ rfl _ _ 26 rfl W1.heap.size 3 i0 _ 1 8 Try.underlying26 hi0 hz0 hz1 hz2 rfl (by decide) _ _ _ rfl hownA ⟨w5.heap.size, 0, none⟩ 1 1 (intC o) rfl rfl (int_new w5 o 3) (intC_one _) (by unfold maxLen; omega) (by omega) (by simp; omega) ?_; intro v' w6 hown6 hg6 _ _; obtain ⟨A3, c3, rfl⟩ := own_slice hown6))
      go_roundw
      case rel => exact ⟨i + 1, A3, c3, by omega, rfl, by go_num, Lib.hid ⟨by rw [HT1.out]; exact hown6, HB3.out.trans ((hb5.mono (by omega)).grown hg6 (by simp; omega) (fun k e => by have := (hownA.lt k e).1; omega))⟩⟩
      case measure => simp [vInt]; omega
    · have hil : ¬ (i : Int) < (l.length : Int) := by omega
      obtain rfl : i = l.length := by omega
      have HO3 := Lib.hid hO
      clear hR hO
      go_wp2_with fail
      go_ret
      have hO4 := HO3.out
      rw [List.take_length] at hO4
      exact ⟨A2, c2, rfl, own_base hO4 b1s, b2⟩
set_option maxRecDepth 100000 in
set_option maxHeartbeats 8000000 in
theorem scoreP_any (traits need : Int) (C T S : Option Addr) (cl c tl t s : Nat) (l : List ShD) (x : List Int) (X : Option Addr) (xc : Nat) (w : World) (h : SharesAt w w.heap.size S l) (hx : IntsAt w w.heap.size X x) (hok : ∀ y ∈ l, ShOk x.length y) (hl : l.length ≤ 10) (hxl : x.length ≤ 10) :
    Calls Try.prog 18 #[.agg #[.int .i64 traits, .slice C cl c, .slice T tl t, .int .i64 need, .slice S l.length s], .slice X x.length xc] w fun e w' => e = .returned (.int .i64 (sumL (l.map fun y => y.weight * shPts x y))) ∧ Below w.heap.size w w' := by
  have b1 := (Below.refl w.heap.size w).alloc (Nat.le_refl _) (.cells #[.int .i64 traits, .slice C cl c, .slice T tl t, .int .i64 need, .slice S l.length s] 62)
  have k1 := Blk.new w #[.int .i64 traits, .slice C cl c, .slice T tl t, .int .i64 need, .slice S l.length s] 62
  have g1 := k1.lt
  have k1c := k1.cell
  have b1s := b1.size
  have h1 := h.later b1
  have h1x := hx.later b1
  clear h hx
  have H1 := Lib.hid h1
  have H1x := Lib.hid h1x
  have HK := Lib.hid hok
  clear h1 h1x hok
  have HV : Hid (sumL (l.map fun y => y.weight * shPts x y) = sumL ((l.take l.length).map fun y => y.weight * shPts x y)) := Lib.hid (by rw [List.take_length])
  generalize sumL (l.map fun y => y.weight * shPts x y) = V at *
  go_enter Try.func18, Try.ntmps18
  go_wp2_with fail
  generalize hW1 : w.alloc (.cells #[.int .i64 traits, .slice C cl c, .slice T tl t, .int .i64 need, .slice S l.length s] 62) = W1 at *
  clear hW1 k1c
  go_loopw [5, 11] (fun zz ii wr => ∃ (i : Nat) (z : Int), i ≤ l.length ∧ zz = .int .i64 z ∧ ii = .int .i64 i ∧ Hid (z = sumL ((l.take i).map fun y => y.weight * shPts x y)) ∧ Hid (Below W1.heap.size W1 wr)) (fun _ ii _ => l.length - (vInt ii).toNat)
  case atStart => exact ⟨0, 0, Nat.zero_le _, rfl, rfl, Lib.hid (by simp [sumL]), Lib.hid (Below.refl _ _)⟩
  case round =>
    obtain ⟨i, z, hi, rfl, rfl, hZ, hBh⟩ := hrel
    have hB := hBh.out
    have b2 := b1.trans (hB.mono b1s)
    by_cases hlt : i < l.length
    · have hil : (i : Int) < (l.length : Int) := by omega
      have h2 := H1.out.later hB
      obtain ⟨b, off, rfl, hb, c0, c1, c2'⟩ := shs_at h2.row hlt
      have hmem := List.getElem_mem hlt
      have ba := (Below.refl wr.heap.size wr).alloc (Nat.le_refl _) (.cells #[.int .i64 l[i].weight, .int .i64 l[i].base, .slice l[i].P l[i].parts.length l[i].p] 84)
      have HCd := Lib.hid (fun q : After (wr.alloc (.cells #[.int .i64 l[i].weight, .int .i64 l[i].base, .slice l[i].P l[i].parts.length l[i].p] 84)).heap.size (wr.alloc (.cells #[.int .i64 l[i].weight, .int .i64 l[i].base, .slice l[i].P l[i].parts.length l[i].p] 84)) => shareP_any l[i] x X xc q.val (((h2.each _ hmem).later ba).later q.property) (((H1x.out.later hB).later ba).later q.property) (HK.out _ hmem) hxl)
      have hzb := sumL_bound ((l.take i).map fun y => y.weight * shPts x y) (fun z hz => by
        obtain ⟨q, hq, rfl⟩ := List.mem_map.1 hz
        have hqo := HK.out q (List.mem_of_mem_take hq)
        exact mul_bound hqo.weight (shPts_bound hqo))
      rw [List.length_map, List.length_take, Nat.min_eq_left (by omega)] at hzb
      have hpb := mul_bound (HK.out _ hmem).weight (shPts_bound (HK.out _ hmem))
      have HN : Hid (sumL ((l.take (i + 1)).map fun y => y.weight * shPts x y) = sumL ((l.take i).map fun y => y.weight * shPts x y) + l[i].weight * shPts x l[i]) := Lib.hid (by rw [List.take_succ_eq_append_getElem hlt, List.map_append, List.map_singleton, sumL_snoc])
      have hzv := hZ.out
      rw [← hzv] at hzb
      have hw1 : IntKind.i64.wrap (l[i].weight * shPts x l[i]) = l[i].weight * shPts x l[i] := IntWalk.i64_in _ (by omega)
      have hw2 : IntKind.i64.wrap (z + l[i].weight * shPts x l[i]) = z + l[i].weight * shPts x l[i] := IntWalk.i64_in _ (by omega)
      have HJ : Hid (z + l[i].weight * shPts x l[i] = sumL ((l.take (i + 1)).map fun y => y.weight * shPts x y)) := Lib.hid (by rw [HN.out, hzv])
      have kn := Blk.new wr #[.int .i64 l[i].weight, .int .i64 l[i].base, .slice l[i].P l[i].parts.length l[i].p] 84
      have HB3 := Lib.hid (hB.trans (ba.mono hB.size))
      have bas := ba.size
      clear hzb hpb HN hzv hZ hmem h2 hBh
      generalize shPts x l[i] = o at *
      generalize l[i] = y at *
      go_upto_region 5 with fail
      generalize hW3 : wr.alloc (.cells #[.int .i64 y.weight, .int .i64 y.base, .slice y.P y.parts.length y.p] 84) = W3 at *
      clear hW3 c0 c1 c2'
      have kna := After.cells (B := W3.heap.size) kn.cell kn.lt
      refine wp_region_class_lit (C := fun w' => ∃ z : After W3.heap.size W3, w' = z.val) (by kernel_rfl) (by kernel_rfl) ⟨⟨_, (Below.refl _ _).drew⟩, rfl⟩ ?_
      repeat (go_big_quiet_step ((first
        | (go_at_call 36; with_reducible exact after_of (Nat.le_refl _) _ (HCd.out _)))))
      refine wpQuiet_nil ?_
      intro wq hw'
      obtain ⟨⟨wz, hz⟩, hw''⟩ := hw'
      dsimp only at hw''
      subst hw''
      go_wp2_with fail
      go_roundw
      case rel => exact ⟨i + 1, z + y.weight * o, by omega, rfl, by go_num, HJ, Lib.hid (HB3.out.trans (hz.mono HB3.out.size))⟩
      case measure => simp [vInt]; omega
    · have hil : ¬ (i : Int) < (l.length : Int) := by omega
      obtain rfl : i = l.length := by omega
      have Hv : Hid (V = z) := Lib.hid (by rw [HV.out, hZ.out])
      clear hZ hBh
      go_wp2_with fail
      go_ret
      exact ⟨by rw [Hv.out]; rfl, b2⟩
end Go.Proofs.Ytijhbcmmoagdmaa

namespace Go.Proofs.Ytijhbcmmoagdmaa
open Go.RowKit Go.Maps

theorem partInfo : (Try.prog.info? 107).map (fun i => (i.zero, i.size, i.bytes)) = some (some .nilIface, 1, 16) := by kernel_rfl
def cardParts (l : List SclD) : List PartD := (List.range l.length).map fun k => .scl (l.getD k default) k
def cardUp (l : List SclD) (i : Nat) : List PartD := (List.range i).map fun k => .scl (l.getD k default) k
theorem cardUp_succ {l : List SclD} {i : Nat} (h : i < l.length) : (cardUp l (i + 1)).flatMap partC = (cardUp l i).flatMap partC ++ partC (.scl l[i] i) := by
  unfold cardUp
  rw [List.range_succ, List.map_append, List.flatMap_append, List.map_singleton, getD_lt l default h]
  simp
theorem own_far {w : World} {base : Nat} {e : TypeId} {size n : Nat} {v : Value} {xs : List Value} (h : w.ownsRow base e size v n xs) {p : Addr} (hp : p.block < base) (u : Value) : (w.setCell p u).ownsRow base e size v n xs := by
  refine ⟨h.1, ?_⟩
  rcases h.2 with h0 | ⟨g, cap, cur, h1, h2, h3, h4⟩
  · exact .inl h0
  · exact .inr ⟨g, cap, cur, h1, h2, (Below.heap_setCell _ _ _ _ (by omega)).trans h3, h4⟩
theorem sh_put {w : World} {g : Nat} {a0 a1 a2 c0 c1 c2 : Value} {t : TypeId} (h : Blk w g #[a0, a1, a2] t) : Blk (((w.setCell ⟨g, 0, none⟩ c0).setCell ⟨g, 1, none⟩ c1).setCell ⟨g, 2, none⟩ c2) g #[c0, c1, c2] t := by
  have := ((h.set 0 c0).set 1 c1).set 2 c2
  simpa using this
theorem part_new (W : World) (q : PartD) (v : Value) (t : TypeId) (hv : partC q = [v]) : ∀ j u, (partC q)[j]? = some u → (W.alloc (.cells #[v] t)).cell? ((⟨W.heap.size, 0, none⟩ : Addr).add j) = some u := fun j u hj => by
  have := (Blk.new W #[v] t).cell j
  rw [show ((⟨W.heap.size, 0, none⟩ : Addr).add j) = ⟨W.heap.size, j, none⟩ by rw [Addr.add]; simp; exact fun h => h.symm]
  refine this.trans ?_
  rw [← hj, hv]; simp

set_option maxRecDepth 100000 in
set_option maxHeartbeats 8000000 in
theorem shareOf_all (wt base : Int) (l : List SclD) (S : Option Addr) (s : Nat) (w : World) (h : SclsAt w w.heap.size S l) (hl : l.length ≤ 10) :
    Calls Try.prog 48 #[.agg #[.int .i64 wt, .int .i64 base, .slice S l.length s]] w fun e w' => ∃ P p, e = .returned (.agg #[.int .i64 wt, .int .i64 base, .slice P l.length p]) ∧ w'.ownsRow w.heap.size 107 1 (.slice P l.length p) l.length ((cardParts l).flatMap partC) ∧ Below w.heap.size w w' := by
  obtain ⟨i0, hi0, hz0, hz1, hz2⟩ := info_parts partInfo
  have b1 := (Below.refl w.heap.size w).alloc (Nat.le_refl _) (.cells #[.int .i64 wt, .int .i64 base, .slice S l.length s] 53)
  have k1 := Blk.new w #[.int .i64 wt, .int .i64 base, .slice S l.length s] 53
  have g1 := k1.lt
  have k1c := k1.cell
  have b1s := b1.size
  have h1 := h.later b1
  have H1 := Lib.hid h1
  clear h h1
  go_enter Try.func48, Try.ntmps48
  go_wp2_with fail
  generalize hW2 : (w.alloc (.cells #[.int .i64 wt, .int .i64 base, .slice S l.length s] 53)).alloc (.cells #[.int .i64 0, .int .i64 0, .slice none 0 0] 84) = W2 at *
  have hs2 : W2.heap.size = w.heap.size + 1 + 1 := by rw [← hW2]; simp
  have b2 : Below w.heap.size w W2 := by rw [← hW2]; exact b1.alloc b1s _
  have H2 := Lib.hid (fun (u : Unit) => show SclsAt W2 W2.heap.size S l by rw [← hW2]; exact H1.out.later ((Below.refl _ _).alloc (Nat.le_refl _) _))
  have kc2 : Blk W2 w.heap.size #[.int .i64 wt, .int .i64 base, .slice S l.length s] 53 := by rw [← hW2]; exact k1.alloc _
  have kr2 : Blk W2 (w.heap.size + 1) #[.int .i64 0, .int .i64 0, .slice none 0 0] 84 := by rw [← hW2]; exact newAt' _ _ _ (by simp)
  have ks2 := newAt' W2 #[.int .i64 wt, .int .i64 base, .slice none 0 0] 84 (g := w.heap.size + 1 + 1) hs2.symm
  have b3 := (Below.refl W2.heap.size W2).alloc (Nat.le_refl _) (.cells #[.int .i64 wt, .int .i64 base, .slice none 0 0] 84)
  have hs3 : (W2.alloc (.cells #[.int .i64 wt, .int .i64 base, .slice none 0 0] 84)).heap.size = W2.heap.size + 1 := by simp
  have b2s := b2.size
  clear hW2 k1c b1 k1 g1 b1s H1
  generalize W2.alloc (.cells #[.int .i64 wt, .int .i64 base, .slice none 0 0] 84) = W3 at *
  go_loopw [14] (fun ii wr => ∃ (i : Nat) (A2 : Option Addr) (c2 : Nat), i ≤ l.length ∧ ii = .int .i64 i ∧ Hid (Blk wr (w.heap.size + 1 + 1) #[.int .i64 wt, .int .i64 base, .slice A2 i c2] 84) ∧ Hid (wr.ownsRow W3.heap.size 107 1 (.slice A2 i c2) i ((cardUp l i).flatMap partC) ∧ Below W2.heap.size W2 wr ∧ W3.heap.size ≤ wr.heap.size)) (fun ii _ => l.length - (vInt ii).toNat)
  case atStart => exact ⟨0, none, 0, Nat.zero_le _, rfl, Lib.hid ks2, Lib.hid ⟨World.ownsRow_nil _ _ _ _, b3, Nat.le_refl _⟩⟩
  case round =>
    obtain ⟨i, A2, c2, hi, rfl, HK, hR⟩ := hrel
    have kr := HK.out
    obtain ⟨hO, hB, hS⟩ := hR.out
    by_cases hlt : i < l.length
    · have hil : (i : Int) < (l.length : Int) := by omega
      have h2 := (H2.out ()).later hB
      obtain ⟨b, off, rfl, hb, c0, c1, c2'⟩ := scls_at h2.row hlt
      have ba := (Below.refl wr.heap.size wr).alloc (Nat.le_refl _) (.cells #[.slice l[i].A l[i].v.cuts.length l[i].a, .slice l[i].B l[i].v.pts.length l[i].b, .int .i64 l[i].v.non] 55)
      have HT1 := Lib.hid (cardUp_succ hlt)
      have HO := Lib.hid (hO.alloc (.cells #[.slice l[i].A l[i].v.cuts.length l[i].a, .slice l[i].B l[i].v.pts.length l[i].b, .int .i64 l[i].v.non] 55))
      have kn := Blk.new wr #[.slice l[i].A l[i].v.cuts.length l[i].a, .slice l[i].B l[i].v.pts.length l[i].b, .int .i64 l[i].v.non] 55
      have ks := kr.alloc (.cells #[.slice l[i].A l[i].v.cuts.length l[i].a, .slice l[i].B l[i].v.pts.length l[i].b, .int .i64 l[i].v.non] 55)
      have bas := ba.size
      have hBs := hB.size
      have HB3 := Lib.hid (hB.alloc hBs (.cells #[.slice l[i].A l[i].v.cuts.length l[i].a, .slice l[i].B l[i].v.pts.length l[i].b, .int .i64 l[i].v.non] 55))
      clear hR hO h2 HK kr
      generalize l[i] = y at *
      go_upto_region 5 with fail
      generalize hW4 : wr.alloc (.cells #[.slice y.A y.v.cuts.length y.a, .slice y.B y.v.pts.length y.b, .int .i64 y.v.non] 55) = W4 at *
      clear hW4 c0 c1 c2' ba
      have hownA := HO.out.alloc (.cells #[.iface 115 (.agg #[.slice y.A y.v.cuts.length y.a, .slice y.B y.v.pts.length y.b, .int .i64 y.v.non, .int .i64 i])] 107)
      have ka := ks.alloc (.cells #[.iface 115 (.agg #[.slice y.A y.v.cuts.length y.a, .slice y.B y.v.pts.length y.b, .int .i64 y.v.non, .int .i64 i])] 107)
      have HBa := Lib.hid (HB3.out.alloc (by omega) (.cells #[.iface 115 (.agg #[.slice y.A y.v.cuts.length y.a, .slice y.B y.v.pts.length y.b, .int .i64 y.v.non, .int .i64 i])] 107))
      have kac := ka.cell
      have ksc := ks.cell
      have knc := kn.cell
      go_wp2_with (at_builtin; refine wpList_append_own_at _ rfl _ _ 82 rfl W3.heap.size 107 i0 _ 1 16 Try.underlying82 hi0 hz0 hz1 hz2 rfl (by decide) _ _ _ rfl hownA ⟨W4.heap.size, 0, none⟩ 1 1 (partC (.scl y i)) rfl rfl (part_new W4 (.scl y i) _ _ rfl) (partC_one _) (by unfold maxLen; omega) (by omega) (by simp; omega) ?_; intro v' w6 hown6 hg6 _ _; obtain ⟨A3, c3, rfl⟩ := own_slice hown6; have k6 := ka.grown hg6 (fun e => by have := (hownA.lt _ e.symm).1; omega); have k6c := k6.cell; have z6 := k6.free 2)
      go_roundw
      case rel => exact ⟨i + 1, A3, c3, by omega, by go_num, Lib.hid (by have := k6.set 2 (.slice A3 (i + 1) c3); simpa using this), Lib.hid ⟨by rw [HT1.out]; exact own_far hown6 (p := ⟨w.heap.size + 1 + 1, 2, none⟩) (by simp; omega) _, ((HBa.out.grown hg6 (by simp; omega) (fun k e => by have := (hownA.lt k e).1; omega)).setCell (p := ⟨w.heap.size + 1 + 1, 2, none⟩) (by simp; omega) _), by have := hg6.size; simp at this; simp; omega⟩⟩
      case measure => simp [vInt]; omega
    · have hil : ¬ (i : Int) < (l.length : Int) := by omega
      obtain rfl : i = l.length := by omega
      have ksc := kr.cell
      have HO3 := Lib.hid hO
      have HB3 := Lib.hid (b2.trans (hB.mono b2s))
      have krr := kr2.below hB (by omega)
      have krf := krr.free
      have krc := krr.cell
      have z0 := krf 0
      have z1 := krf 1
      have z2 := krf 2
      clear hR hO hB
      go_wp2_with fail
      have hrc := (sh_put (c0 := .int .i64 wt) (c1 := .int .i64 base) (c2 := .slice A2 l.length c2) krr).cell
      refine bodyPost_ret (v := .agg #[.int .i64 wt, .int .i64 base, .slice A2 l.length c2]) (by simp [results, Try.results48, go_sem, hrc]) rfl ⟨A2, c2, rfl, ?_, (((HB3.out.setCell (p := ⟨w.heap.size + 1, 0, none⟩) (by simp) _).setCell (p := ⟨w.heap.size + 1, 1, none⟩) (by simp) _).setCell (p := ⟨w.heap.size + 1, 2, none⟩) (by simp) _)⟩
      exact own_base (own_far (own_far (own_far HO3.out (p := ⟨w.heap.size + 1, 0, none⟩) (by simp; omega) _) (p := ⟨w.heap.size + 1, 1, none⟩) (by simp; omega) _) (p := ⟨w.heap.size + 1, 2, none⟩) (by simp; omega) _) (by omega)
end Go.Proofs.Ytijhbcmmoagdmaa

namespace Go.Proofs.Ytijhbcmmoagdmaa
open Go.RowKit Go.Maps

/-- As Flat, in blocks from lo on, none of which is a row's. -/
def FlatX {α : Type} (n : Nat) (f : α → List Value) (w : World) (lo : Nat) (row : Option Nat) (A : Option Addr) (l : List α) : Prop :=
  ∀ k, (h : k < l.length) → ∃ b off, A = some ⟨b, off, none⟩ ∧ lo ≤ b ∧ b < w.heap.size ∧ some b ≠ row ∧ ∀ i, i < n → w.cell? ⟨b, off + k * n + i, none⟩ = (f l[k])[i]?
section
variable {α : Type} {n : Nat} {f : α → List Value} {w w' : World} {lo : Nat} {row row' : Option Nat} {A : Option Addr} {l : List α}
theorem FlatX.flat (h : FlatX n f w lo row A l) : Flat n f w w.heap.size A l := fun k hk => by
  obtain ⟨b, off, e, _, h2, _, h4⟩ := h k hk
  exact ⟨b, off, e, h2, h4⟩
theorem FlatX.below (h : FlatX n f w lo row A l) (hb : Below w.heap.size w w') : FlatX n f w' lo row A l := fun k hk => by
  obtain ⟨b, off, e, h1, h2, h3, h4⟩ := h k hk
  exact ⟨b, off, e, h1, Nat.lt_of_lt_of_le h2 hb.size, h3, fun i hi => (hb.cell (p := ⟨b, off + k * n + i, none⟩) h2).trans (h4 i hi)⟩
theorem FlatX.kept (h : FlatX n f w lo row A l) (hg : w.grownBy w' row) (hr : row' = row ∨ row' = some w.heap.size) : FlatX n f w' lo row' A l := fun k hk => by
  obtain ⟨b, off, e, h1, h2, h3, h4⟩ := h k hk
  refine ⟨b, off, e, h1, Nat.lt_of_lt_of_le h2 hg.size, fun e' => ?_, fun i hi => (World.cell?_of_block (hg.block b h2 h3)).trans (h4 i hi)⟩
  rcases hr with rfl | rfl
  · exact h3 e'
  · have := Option.some.inj e'; omega
theorem FlatX.setCell (h : FlatX n f w lo row A l) {p : Addr} (hp : p.block < lo) (v : Value) : FlatX n f (w.setCell p v) lo row A l := fun k hk => by
  obtain ⟨b, off, e, h1, h2, h3, h4⟩ := h k hk
  exact ⟨b, off, e, h1, by simpa using h2, h3, fun i hi => (World.cell?_of_block (heap_setCell_other w p b v (by omega))).trans (h4 i hi)⟩
theorem FlatX.of_own (hn : ∀ x, (f x).length = n) (h0 : 0 < n) {base : Nat} {c : Nat} {t : TypeId} (h : w.ownsRow base t n (.slice A l.length c) l.length (l.flatMap f)) (hlo : lo ≤ base) (hrow : ∀ g, row = some g → g < base) : FlatX n f w lo row A l := fun k hk => by
  obtain ⟨g, cap, hv, hb, hlt⟩ := h.form (by omega)
  obtain ⟨b, off, e, h2, h4⟩ := Flat.of_own hn h0 h k hk
  simp only [Value.slice.injEq, true_and] at hv
  obtain ⟨rfl, rfl⟩ := hv
  simp only [Option.some.injEq, Addr.mk.injEq, and_true] at e
  obtain ⟨rfl, rfl⟩ := e
  exact ⟨_, _, rfl, by omega, h2, fun e' => by have := hrow _ e'.symm; omega, h4⟩
end
def ShInv (w : World) (lo : Nat) (A : Option Addr) (c n : Nat) (l : List ShD) : Prop :=
  l.length = n ∧ w.ownsRow lo 84 3 (.slice A n c) n (l.flatMap shC) ∧ ∀ y ∈ l, FlatX 1 partC w lo (Value.slice A n c).ownBlock y.P y.parts
section
variable {w w' : World} {lo : Nat} {A A' : Option Addr} {c c' n : Nat} {l : List ShD}
theorem ShInv.below (h : ShInv w lo A c n l) (hb : Below w.heap.size w w') : ShInv w' lo A c n l := ⟨h.1, own_below h.2.1 hb, fun y hy => (h.2.2 y hy).below hb⟩
theorem ShInv.alloc (h : ShInv w lo A c n l) (o : Obj) : ShInv (w.alloc o) lo A c n l := h.below ((Below.refl _ _).alloc (Nat.le_refl _) o)
theorem ShInv.setCell (h : ShInv w lo A c n l) {p : Addr} (hp : p.block < lo) (v : Value) : ShInv (w.setCell p v) lo A c n l := ⟨h.1, own_far h.2.1 hp v, fun y hy => (h.2.2 y hy).setCell hp v⟩
theorem ShInv.lt (h : ShInv w lo A c n l) : ∀ g, (Value.slice A n c).ownBlock = some g → lo ≤ g ∧ g < w.heap.size := fun g hg => h.2.1.lt g hg
theorem ShInv.less {lo' : Nat} (h : ShInv w lo A c n l) (hlo : lo' ≤ lo) : ShInv w lo' A c n l := ⟨h.1, own_base h.2.1 hlo, fun y hy k hk => by
  obtain ⟨b, off, e, h1, h2⟩ := h.2.2 y hy k hk
  exact ⟨b, off, e, by omega, h2⟩⟩
theorem ShInv.push (h : ShInv w lo A c n l) {z : ShD} (hz : FlatX 1 partC w lo (Value.slice A n c).ownBlock z.P z.parts) (hown : w'.ownsRow lo 84 3 (.slice A' (n + 1) c') (n + 1) (l.flatMap shC ++ shC z)) (hg : w.grownBy w' (Value.slice A n c).ownBlock) (ho : (Value.slice A' (n + 1) c').ownBlock = (Value.slice A n c).ownBlock ∨ (Value.slice A' (n + 1) c').ownBlock = some w.heap.size) : ShInv w' lo A' c' (n + 1) (l ++ [z]) := by
  refine ⟨by rw [List.length_append, h.1]; rfl, by rw [List.flatMap_append]; simpa using hown, fun y hy => ?_⟩
  rcases List.mem_append.1 hy with hy | hy
  · exact (h.2.2 y hy).kept hg ho
  · rw [List.mem_singleton] at hy
    subst hy
    exact hz.kept hg ho
end
theorem cardParts_len (l : List SclD) : (cardParts l).length = l.length := by unfold cardParts; simp
theorem shC_card (wt base : Int) (l : List SclD) (P : Option Addr) (p : Nat) : shC ⟨wt, base, cardParts l, P, p⟩ = [.int .i64 wt, .int .i64 base, .slice P l.length p] := by unfold shC; rw [cardParts_len]
def ShD.core (y : ShD) : Int × Int × List PartD := (y.weight, y.base, y.parts)
def crdCore (y : CrdD) : Int × Int × List PartD := (y.weight, y.base, cardParts y.scales)
def treCore (y : TreD) : Int × Int × List PartD := (y.v.weight, 0, [.tre y])
theorem sh_new (W : World) (v0 v1 v2 : Value) (t : TypeId) : ∀ j u, ([v0, v1, v2] : List Value)[j]? = some u → (W.alloc (.cells #[v0, v1, v2] t)).cell? ((⟨W.heap.size, 0, none⟩ : Addr).add j) = some u := fun j u hj => by
  have := (Blk.new W #[v0, v1, v2] t).cell j
  rw [show ((⟨W.heap.size, 0, none⟩ : Addr).add j) = ⟨W.heap.size, j, none⟩ by rw [Addr.add]; simp; exact fun h => h.symm]
  refine this.trans ?_
  rw [← hj]; simp
theorem sh_new2 (W : World) (g : Nat) (hg : g = W.heap.size) (v0 v1 v2 : Value) (t : TypeId) : ∀ j u, ([v0, v1, v2] : List Value)[j]? = some u → (W.alloc (.cells #[v0, v1, v2] t)).cell? ((⟨g, 0, none⟩ : Addr).add j) = some u := by subst hg; exact sh_new W v0 v1 v2 t
theorem mod_put {w : World} {g : Nat} {a0 a1 a2 a3 a4 c4 : Value} {t : TypeId} (h : Blk w g #[a0, a1, a2, a3, a4] t) : Blk (w.setCell ⟨g, 4, none⟩ c4) g #[a0, a1, a2, a3, c4] t := by
  have := h.set 4 c4
  simpa using this
theorem ShInv.at_ {w : World} {lo : Nat} {A : Option Addr} {c n : Nat} {l : List ShD} (h : ShInv w lo A c n l) (hp : ∀ y ∈ l, ∀ q ∈ y.parts, PartAt w w.heap.size q) : SharesAt w w.heap.size A l := by
  obtain ⟨rfl, h2, h3⟩ := h
  exact ⟨Flat.of_own shC_len (by decide) h2, fun y hy => ⟨(h3 y hy).flat, hp y hy⟩⟩
theorem cardParts_mem {l : List SclD} {q : PartD} (h : q ∈ cardParts l) : ∃ x k, x ∈ l ∧ k < l.length ∧ q = .scl x k := by
  obtain ⟨k, hk, rfl⟩ := List.mem_map.1 h
  rw [List.mem_range] at hk
  exact ⟨l[k], k, List.getElem_mem hk, hk, by rw [getD_lt l default hk]⟩
theorem core_cases {cl : List CrdD} {tl : List TreD} {sh : List ShD} (h : sh.map ShD.core = cl.map crdCore ++ tl.map treCore) : ∀ y ∈ sh, (∃ x ∈ cl, y.weight = x.weight ∧ y.base = x.base ∧ y.parts = cardParts x.scales) ∨ (∃ x ∈ tl, y.weight = x.v.weight ∧ y.base = 0 ∧ y.parts = [.tre x]) := fun y hy => by
  have h1 : y.core ∈ cl.map crdCore ++ tl.map treCore := by rw [← h]; exact List.mem_map_of_mem hy
  rcases List.mem_append.1 h1 with h1 | h1
  · obtain ⟨x, hx, e⟩ := List.mem_map.1 h1
    simp only [ShD.core, crdCore, Prod.mk.injEq] at e
    exact .inl ⟨x, hx, e.1.symm, e.2.1.symm, e.2.2.symm⟩
  · obtain ⟨x, hx, e⟩ := List.mem_map.1 h1
    simp only [ShD.core, treCore, Prod.mk.injEq] at e
    exact .inr ⟨x, hx, e.1.symm, e.2.1.symm, e.2.2.symm⟩
theorem core_parts {W : World} {B : Nat} {traits need : Int} {cl : List CrdD} {tl : List TreD} {C T : Option Addr} {c t : Nat} {sh : List ShD} (hm : MdlAt W B ⟨traits, cl, C, c, tl, T, t, need⟩) (h : sh.map ShD.core = cl.map crdCore ++ tl.map treCore) : ∀ y ∈ sh, ∀ q ∈ y.parts, PartAt W B q := fun y hy q hq => by
  rcases core_cases h y hy with ⟨x, hx, _, _, e⟩ | ⟨x, hx, _, _, e⟩
  · rw [e] at hq
    obtain ⟨z, k, hz, _, rfl⟩ := cardParts_mem hq
    exact (hm.cards.each x hx).each z hz
  · rw [e, List.mem_singleton] at hq
    subst hq
    exact hm.trees.each x hx
/-- What open answers of a valid model. -/
def OpenS (w : World) (traits need : Int) (cl : List CrdD) (tl : List TreD) (C T : Option Addr) (c t : Nat) (e : Ending) (w' : World) : Prop :=
  ∃ S s sh, e = .returned (.tuple #[.agg #[.int .i64 traits, .slice C cl.length c, .slice T tl.length t, .int .i64 need, .slice S (cl.length + tl.length) s], .int .i64 0]) ∧ sh.map ShD.core = cl.map crdCore ++ tl.map treCore ∧ ShInv w' w.heap.size S s (cl.length + tl.length) sh ∧ Below w.heap.size w w'
theorem shInfo : (Try.prog.info? 84).map (fun i => (i.zero, i.size, i.bytes)) = some (some (.agg #[.int .i64 0, .int .i64 0, .slice none 0 0]), 3, 40) := by kernel_rfl

set_option maxRecDepth 100000 in
set_option maxHeartbeats 8000000 in
theorem open_all (traits need : Int) (cl : List CrdD) (tl : List TreD) (C T : Option Addr) (c t : Nat) (w : World) (h : MdlAt w w.heap.size ⟨traits, cl, C, c, tl, T, t, need⟩) (hls : MdlLe ⟨traits, cl, C, c, tl, T, t, need⟩) (hq : mdlB ⟨traits, cl.map CrdD.v, tl.map TreD.v, need⟩ = true) :
    Calls Try.prog 30 #[.agg #[.int .i64 traits, .slice C cl.length c, .slice T tl.length t, .int .i64 need]] w fun e w' => OpenS w traits need cl tl C T c t e w' := by
  obtain ⟨i0, hi0, hz0, hz1, hz2⟩ := info_parts shInfo
  have b1 := (Below.refl w.heap.size w).alloc (Nat.le_refl _) (.cells #[.int .i64 traits, .slice C cl.length c, .slice T tl.length t, .int .i64 need] 25)
  have k1 := Blk.new w #[.int .i64 traits, .slice C cl.length c, .slice T tl.length t, .int .i64 need] 25
  have g1 := k1.lt
  have k1c := k1.cell
  have b1s := b1.size
  have HC := Lib.hid (fun W hb => checkP_any ⟨traits, cl, C, c, tl, T, t, need⟩ W (h.later (w' := W) hb) hls)
  have he : mdlE (MdlD.v ⟨traits, cl, C, c, tl, T, t, need⟩) = 0 := by unfold mdlE; exact if_pos hq
  rw [he] at HC
  have b2 := b1.alloc b1s (.cells #[.int .i64 0, .slice none 0 0, .slice none 0 0, .int .i64 0, .slice none 0 0] 62)
  have k2 := k1.alloc (.cells #[.int .i64 0, .slice none 0 0, .slice none 0 0, .int .i64 0, .slice none 0 0] 62)
  have kr := newAt' (w.alloc (.cells #[.int .i64 traits, .slice C cl.length c, .slice T tl.length t, .int .i64 need] 25)) #[.int .i64 0, .slice none 0 0, .slice none 0 0, .int .i64 0, .slice none 0 0] 62 (g := w.heap.size + 1) (by simp)
  go_enter Try.func30, Try.ntmps30
  go_wp2_with fail
  generalize hW2 : (w.alloc (.cells #[.int .i64 traits, .slice C cl.length c, .slice T tl.length t, .int .i64 need] 25)).alloc (.cells #[.int .i64 0, .slice none 0 0, .slice none 0 0, .int .i64 0, .slice none 0 0] 62) = W2 at *
  have hs2 : W2.heap.size = w.heap.size + 1 + 1 := by rw [← hW2]; simp
  have H2 := Lib.hid (h.later b2)
  clear hW2 k1c k1 b1 b1s g1 h
  have b2s := b2.size
  go_wp2_with (go_at_call 11; (with_reducible refine (HC.out _ b2).mono ?_); rintro e w5 ⟨rfl, h5⟩; have k5c := (k2.below h5 (by omega)).cell; have k6c := ((k2.below h5 (by omega)).alloc (.cells #[.int .i64 traits, .slice C cl.length c, .slice T tl.length t, .int .i64 need, .slice none 0 0] 62)).cell; have h5s := h5.size)
  have km := Blk.new w5 #[.int .i64 traits, .slice C cl.length c, .slice T tl.length t, .int .i64 need, .slice none 0 0] 62
  have b6 := h5.alloc h5s (.cells #[.int .i64 traits, .slice C cl.length c, .slice T tl.length t, .int .i64 need, .slice none 0 0] 62)
  have hs6 : (w5.alloc (.cells #[.int .i64 traits, .slice C cl.length c, .slice T tl.length t, .int .i64 need, .slice none 0 0] 62)).heap.size = w5.heap.size + 1 := by simp
  have hW0 : w5.heap.size = w5.heap.size := rfl
  clear k5c k6c HC he h5
  generalize w5.alloc (.cells #[.int .i64 traits, .slice C cl.length c, .slice T tl.length t, .int .i64 need, .slice none 0 0] 62) = W6 at *
  generalize w5.heap.size = gm at *
  go_loopw [21] (fun ii wr => ∃ (i : Nat) (A2 : Option Addr) (c2 : Nat) (sh : List ShD), i ≤ cl.length ∧ ii = .int .i64 i ∧ Hid (Blk wr gm #[.int .i64 traits, .slice C cl.length c, .slice T tl.length t, .int .i64 need, .slice A2 i c2] 62) ∧ Hid (sh.map ShD.core = (cl.take i).map crdCore ∧ ShInv wr W6.heap.size A2 c2 i sh ∧ Below W2.heap.size W2 wr ∧ W6.heap.size ≤ wr.heap.size)) (fun ii _ => cl.length - (vInt ii).toNat)
  case atStart => exact ⟨0, none, 0, [], Nat.zero_le _, rfl, Lib.hid km, Lib.hid ⟨rfl, ⟨rfl, World.ownsRow_nil _ _ _ _, fun y hy => by cases hy⟩, b6, Nat.le_refl _⟩⟩
  case round =>
    obtain ⟨i, A2, c2, sh, hi, rfl, HK, hR⟩ := hrel
    have kr2 := HK.out
    obtain ⟨hCo, hSh, hB, hS⟩ := hR.out
    have k2w := (k2.below hB (by omega)).cell
    by_cases hlt : i < cl.length
    · have hil : (i : Int) < (cl.length : Int) := by omega
      have h2 := (H2.out.later hB).cards
      obtain ⟨b, off, rfl, hb, c0, c1, c2'⟩ := crds_at h2.row hlt
      have hmem := List.getElem_mem hlt
      have ba := (Below.refl wr.heap.size wr).alloc (Nat.le_refl _) (.cells #[.int .i64 cl[i].weight, .int .i64 cl[i].base, .slice cl[i].S cl[i].scales.length cl[i].s] 53)
      have HSo := Lib.hid (fun W hb => shareOf_all cl[i].weight cl[i].base cl[i].scales cl[i].S cl[i].s W (((h2.each _ hmem).later ba).later (w' := W) hb) (hls.scales _ hmem))
      have HT1 : Hid (∀ z : ShD, z.core = crdCore cl[i] → (sh ++ [z]).map ShD.core = (cl.take (i + 1)).map crdCore) := Lib.hid (fun z hz => by rw [List.take_succ_eq_append_getElem hlt, List.map_append, List.map_append, hCo, List.map_singleton, List.map_singleton, hz])
      have kn := Blk.new wr #[.int .i64 cl[i].weight, .int .i64 cl[i].base, .slice cl[i].S cl[i].scales.length cl[i].s] 53
      have ks := kr2.alloc (.cells #[.int .i64 cl[i].weight, .int .i64 cl[i].base, .slice cl[i].S cl[i].scales.length cl[i].s] 53)
      have HSh := Lib.hid (hSh.below ba)
      have bas := ba.size
      have hBs := hB.size
      have HB3 := Lib.hid (hB.alloc hBs (.cells #[.int .i64 cl[i].weight, .int .i64 cl[i].base, .slice cl[i].S cl[i].scales.length cl[i].s] 53))
      clear hR hSh h2 HK kr2 hCo hmem k2w
      generalize cl[i] = y at *
      go_upto_region 8 with fail
      generalize hW4 : wr.alloc (.cells #[.int .i64 y.weight, .int .i64 y.base, .slice y.S y.scales.length y.s] 53) = W4 at *
      clear hW4 c0 c1 c2' ba hB
      have ksc := ks.cell
      have knc := kn.cell
      have D0 : Below W4.heap.size W4 W4.drew := (Below.refl _ _).drew
      have hi10 : i ≤ 100 := by have := hls.cards; simp only at this; omega
      have hgm : gm < W6.heap.size := by omega
      go_region_law (first
        | (go_simp; go_at_call 48; (with_reducible refine (HSo.out _ D0).mono ?_); rintro e w7 ⟨P, p, rfl, hownP, h7⟩; have k7 := ks.below (D0.trans h7) ks.lt; have k7c := k7.cell; have hsA := (HSh.out.below (D0.trans h7)).alloc (.cells #[.int .i64 y.weight, .int .i64 y.base, .slice P y.scales.length p] 84); have kA := k7.alloc (.cells #[.int .i64 y.weight, .int .i64 y.base, .slice P y.scales.length p] 84); have kAc := kA.cell; have hv7 := (D0.trans h7).size)
        | (refine step_append_opt (by rfl) _ _ _ (by rfl) W6.heap.size 84 i0 _ 3 40 Try.underlying60 hi0 hz0 hz1 hz2 rfl (by decide) _ _ _ (by rfl) hsA.2.1 (some ⟨w7.heap.size, 0, none⟩) 1 1 [.int .i64 y.weight, .int .i64 y.base, .slice P y.scales.length p] (by rfl) (fun e => by cases e) (by rfl) (fun ad e => by cases e; exact sh_new w7 _ _ _ _) (by simp [Value.oneCell']) (by unfold maxLen; omega) (by omega) (by simp; omega) ?_; intro v8 w8 hown8 hg8 ho8; obtain ⟨A3, c3, rfl⟩ := own_slice hown8; have k8 := kA.grown hg8 (fun e => by have := (hsA.lt _ e.symm).1; omega); have k8c := k8.cell; have z8 := k8.free 4))
      all_goals have hb7 := D0.trans h7
      all_goals have hfx : FlatX 1 partC (w7.alloc (.cells #[.int .i64 y.weight, .int .i64 y.base, .slice P y.scales.length p] 84)) W6.heap.size (Value.slice A2 i c2).ownBlock P (cardParts y.scales) := FlatX.below (FlatX.of_own (n := 1) (f := partC) (base := W4.heap.size) (c := p) partC_len (by decide) (by rw [cardParts_len]; exact hownP) (by omega) (fun g e => (HSh.out.lt g e).2)) ((Below.refl _ _).alloc (Nat.le_refl _) _)
      all_goals have hpush := ShInv.push (z := ⟨y.weight, y.base, cardParts y.scales, P, p⟩) hsA hfx (by rw [shC_card]; exact hown8) hg8 ho8
      all_goals have hsz8 := hg8.size
      all_goals rw [World.size_alloc] at hsz8
      all_goals have hB8 := ((HB3.out.trans (hb7.mono (by omega))).alloc (by omega) (.cells #[.int .i64 y.weight, .int .i64 y.base, .slice P y.scales.length p] 84)).grown hg8 (by rw [World.size_alloc]; omega) (fun k e => by have := (hsA.lt k e).1; omega)
      all_goals have HF : Hid (Blk (w8.setCell ⟨gm, 4, none⟩ (.slice A3 (i + 1) c3)) gm #[.int .i64 traits, .slice (some ⟨b, off, none⟩) cl.length c, .slice T tl.length t, .int .i64 need, .slice A3 (i + 1) c3] 62 ∧ (sh ++ [(⟨y.weight, y.base, cardParts y.scales, P, p⟩ : ShD)]).map ShD.core = (cl.take (i + 1)).map crdCore ∧ ShInv (w8.setCell ⟨gm, 4, none⟩ (.slice A3 (i + 1) c3)) W6.heap.size A3 c3 (i + 1) (sh ++ [(⟨y.weight, y.base, cardParts y.scales, P, p⟩ : ShD)]) ∧ Below W2.heap.size W2 (w8.setCell ⟨gm, 4, none⟩ (.slice A3 (i + 1) c3)) ∧ W6.heap.size ≤ (w8.setCell ⟨gm, 4, none⟩ (.slice A3 (i + 1) c3)).heap.size) := Lib.hid ⟨mod_put k8, HT1.out _ rfl, hpush.setCell (p := ⟨gm, 4, none⟩) hgm _, hB8.setCell (p := ⟨gm, 4, none⟩) h5s _, by simp; omega⟩
      all_goals clear hpush hfx hB8 hsA kA hownP hown8 hg8 ho8 k7 k8 kAc k7c k8c h7 hb7
      all_goals go_wp2_with fail
      all_goals go_roundw
      all_goals first
        | (simp [vInt]; omega; done)
        | exact ⟨i + 1, A3, c3, _, by omega, by go_num, Lib.hid HF.out.1, Lib.hid HF.out.2⟩
    · have hil : ¬ (i : Int) < (cl.length : Int) := by omega
      obtain rfl : i = cl.length := by omega
      have k2c := k2w
      have kmc := kr2.cell
      have HCo := Lib.hid hCo
      have HSh := Lib.hid hSh
      have HB1 := Lib.hid hB
      rw [List.take_length] at HCo
      clear hR hCo hSh hB HK
      go_wp2_with fail
      generalize wr = W7 at *
      clear k2w k2c kmc
      go_loopw [36] (fun ii wr => ∃ (i : Nat) (A2 : Option Addr) (c2 : Nat) (sh : List ShD), i ≤ tl.length ∧ ii = .int .i64 i ∧ Hid (Blk wr gm #[.int .i64 traits, .slice C cl.length c, .slice T tl.length t, .int .i64 need, .slice A2 (cl.length + i) c2] 62) ∧ Hid (sh.map ShD.core = cl.map crdCore ++ (tl.take i).map treCore ∧ ShInv wr W6.heap.size A2 c2 (cl.length + i) sh ∧ Below W2.heap.size W2 wr ∧ W6.heap.size ≤ wr.heap.size)) (fun ii _ => tl.length - (vInt ii).toNat)
      case atStart => exact ⟨0, A2, c2, sh, Nat.zero_le _, rfl, Lib.hid kr2, Lib.hid ⟨by rw [HCo.out]; simp, HSh.out, HB1.out, hS⟩⟩
      clear HCo HSh HB1 kr2
      case round =>
        obtain ⟨i, A2, c2, sh, hi, rfl, HK, hR⟩ := hrel
        have kr2 := HK.out
        obtain ⟨hCo, hSh, hB, hS⟩ := hR.out
        have k2w := (k2.below hB (by omega)).cell
        by_cases hlt : i < tl.length
        · have hil : (i : Int) < (tl.length : Int) := by omega
          have h2 := (H2.out.later hB).trees
          obtain ⟨b, off, rfl, hb, c0, c1⟩ := tres_at h2.row hlt
          have HT1 : Hid (∀ z : ShD, z.core = treCore tl[i] → (sh ++ [z]).map ShD.core = cl.map crdCore ++ (tl.take (i + 1)).map treCore) := Lib.hid (fun z hz => by rw [List.take_succ_eq_append_getElem hlt, List.map_append, List.map_append, hCo, List.map_singleton, List.map_singleton, hz, List.append_assoc])
          have kn := Blk.new wr #[.int .i64 tl[i].v.weight, .slice tl[i].T tl[i].v.nodes.length tl[i].t] 58
          have ks := kr2.alloc (.cells #[.int .i64 tl[i].v.weight, .slice tl[i].T tl[i].v.nodes.length tl[i].t] 58)
          have hS4 := hSh.alloc (.cells #[.int .i64 tl[i].v.weight, .slice tl[i].T tl[i].v.nodes.length tl[i].t] 58)
          have hBs := hB.size
          have hs4 := kn.lt
          have HB3 := hB.alloc hBs (.cells #[.int .i64 tl[i].v.weight, .slice tl[i].T tl[i].v.nodes.length tl[i].t] 58)
          clear hR hSh h2 HK kr2 hCo hB
          generalize tl[i] = y at *
          go_upto_region 13 with fail
          generalize hW4 : wr.alloc (.cells #[.int .i64 y.v.weight, .slice y.T y.v.nodes.length y.t] 58) = W4 at *
          clear hW4 c0 c1
          have ksc := ks.cell
          have knc := kn.cell
          have hi10 : cl.length + i ≤ 100 := by have h7 := hls.cards; have h8 := hls.trees; simp only at h7 h8; omega
          have hgm : gm < W6.heap.size := by omega
          have hSa := (hS4.alloc (.cells #[.iface 95 (.agg #[.int .i64 y.v.weight, .slice y.T y.v.nodes.length y.t])] 107)).alloc (.cells #[.int .i64 y.v.weight, .int .i64 0, .slice (some ⟨W4.heap.size, 0, none⟩) 1 1] 84)
          have kA := (ks.alloc (.cells #[.iface 95 (.agg #[.int .i64 y.v.weight, .slice y.T y.v.nodes.length y.t])] 107)).alloc (.cells #[.int .i64 y.v.weight, .int .i64 0, .slice (some ⟨W4.heap.size, 0, none⟩) 1 1] 84)
          have kP := (Blk.new W4 #[.iface 95 (.agg #[.int .i64 y.v.weight, .slice y.T y.v.nodes.length y.t])] 107).alloc (.cells #[.int .i64 y.v.weight, .int .i64 0, .slice (some ⟨W4.heap.size, 0, none⟩) 1 1] 84)
          have hsp := (Blk.new W4 #[.iface 95 (.agg #[.int .i64 y.v.weight, .slice y.T y.v.nodes.length y.t])] 107).lt
          have HFx : Hid (FlatX 1 partC ((W4.alloc (.cells #[.iface 95 (.agg #[.int .i64 y.v.weight, .slice y.T y.v.nodes.length y.t])] 107)).alloc (.cells #[.int .i64 y.v.weight, .int .i64 0, .slice (some ⟨W4.heap.size, 0, none⟩) 1 1] 84)) W6.heap.size (Value.slice A2 (cl.length + i) c2).ownBlock (some ⟨W4.heap.size, 0, none⟩) [.tre y]) := Lib.hid (fun k hk => by
            obtain rfl : k = 0 := by simpa using hk
            refine ⟨_, _, rfl, by omega, by simp; omega, fun e => ?_, fun j hj => ?_⟩
            · have := (hS4.lt _ e.symm).2; omega
            · obtain rfl : j = 0 := by omega
              exact kP.cell 0)
          have HBa := Lib.hid ((HB3.alloc (by omega) (.cells #[.iface 95 (.agg #[.int .i64 y.v.weight, .slice y.T y.v.nodes.length y.t])] 107)).alloc (by omega) (.cells #[.int .i64 y.v.weight, .int .i64 0, .slice (some ⟨W4.heap.size, 0, none⟩) 1 1] 84))
          clear hS4 ks kP HB3 kn
          go_wp2_with (at_builtin; refine wpList_append_own_at _ rfl _ _ 60 rfl W6.heap.size 84 i0 _ 3 40 Try.underlying60 hi0 hz0 hz1 hz2 rfl (by decide) _ _ _ rfl hSa.2.1 ⟨W4.heap.size + 1, 0, none⟩ 1 1 [.int .i64 y.v.weight, .int .i64 0, .slice (some ⟨W4.heap.size, 0, none⟩) 1 1] (by first | rfl | simp) rfl (sh_new2 (W4.alloc (.cells #[.iface 95 (.agg #[.int .i64 y.v.weight, .slice y.T y.v.nodes.length y.t])] 107)) (W4.heap.size + 1) (by simp) _ _ _ _) (by simp [Value.oneCell']) (by unfold maxLen; omega) (by omega) (by simp; omega) ?_; intro v8 w8 hown8 hg8 _ ho8; obtain ⟨A3, c3, rfl⟩ := own_slice hown8; have k8 := kA.grown hg8 (fun e => by have := (hSa.lt _ e.symm).1; omega); have k8c := k8.cell; have z8 := k8.free 4)
          have hpush := ShInv.push (z := (⟨y.v.weight, 0, [.tre y], some ⟨W4.heap.size, 0, none⟩, 1⟩ : ShD)) hSa HFx.out hown8 hg8 ho8
          have hsz8 := hg8.size
          have hB8 := HBa.out.grown hg8 (by rw [World.size_alloc]; omega) (fun k e => by have := (hSa.lt k e).1; omega)
          have HF : Hid (Blk (w8.setCell ⟨gm, 4, none⟩ (.slice A3 (cl.length + i + 1) c3)) gm #[.int .i64 traits, .slice C cl.length c, .slice (some ⟨b, off, none⟩) tl.length t, .int .i64 need, .slice A3 (cl.length + i + 1) c3] 62 ∧ (sh ++ [(⟨y.v.weight, 0, [.tre y], some ⟨W4.heap.size, 0, none⟩, 1⟩ : ShD)]).map ShD.core = cl.map crdCore ++ (tl.take (i + 1)).map treCore ∧ ShInv (w8.setCell ⟨gm, 4, none⟩ (.slice A3 (cl.length + i + 1) c3)) W6.heap.size A3 c3 (cl.length + i + 1) (sh ++ [(⟨y.v.weight, 0, [.tre y], some ⟨W4.heap.size, 0, none⟩, 1⟩ : ShD)]) ∧ Below W2.heap.size W2 (w8.setCell ⟨gm, 4, none⟩ (.slice A3 (cl.length + i + 1) c3)) ∧ W6.heap.size ≤ (w8.setCell ⟨gm, 4, none⟩ (.slice A3 (cl.length + i + 1) c3)).heap.size) := Lib.hid ⟨mod_put k8, HT1.out _ rfl, hpush.setCell (p := ⟨gm, 4, none⟩) hgm _, hB8.setCell (p := ⟨gm, 4, none⟩) h5s _, by rw [World.size_alloc] at hsz8; simp; omega⟩
          go_roundw
          case rel => exact ⟨i + 1, A3, c3, _, by omega, by go_num, Lib.hid HF.out.1, Lib.hid HF.out.2⟩
          case measure => simp [vInt]; omega
        · have hil : ¬ (i : Int) < (tl.length : Int) := by omega
          obtain rfl : i = tl.length := by omega
          have kmc := kr2.cell
          have krr := kr.below hB (by omega)
          have krf := krr.free
          have krc := krr.cell
          have z0 := krf 0
          have z1 := krf 1
          have z2 := krf 2
          have z3 := krf 3
          have z4 := krf 4
          have hgw : gm ≠ w.heap.size + 1 := by omega
          rw [List.take_length] at hCo
          have HCo := Lib.hid hCo
          have HSh := Lib.hid hSh
          have HB1 := Lib.hid hB
          clear hR hCo hSh hB HK
          go_wp2_with fail
          have hrc := (nod_put (c0 := .int .i64 traits) (c1 := .slice C cl.length c) (c2 := .slice T tl.length t) (c3 := .int .i64 need) (c4 := .slice A2 (cl.length + tl.length) c2) krr).cell
          have hbe := ((((((b2.trans (HB1.out.mono b2s)).setCell (p := ⟨w.heap.size + 1, 0, none⟩) (by simp) (.int .i64 traits)).setCell (p := ⟨w.heap.size + 1, 1, none⟩) (by simp) (.slice C cl.length c)).setCell (p := ⟨w.heap.size + 1, 2, none⟩) (by simp) (.slice T tl.length t)).setCell (p := ⟨w.heap.size + 1, 3, none⟩) (by simp) (.int .i64 need)).setCell (p := ⟨w.heap.size + 1, 4, none⟩) (by simp) (.slice A2 (cl.length + tl.length) c2))
          have hse := (((((HSh.out.setCell (p := ⟨w.heap.size + 1, 0, none⟩) (by show w.heap.size + 1 < W6.heap.size; omega) (.int .i64 traits)).setCell (p := ⟨w.heap.size + 1, 1, none⟩) (by show w.heap.size + 1 < W6.heap.size; omega) (.slice C cl.length c)).setCell (p := ⟨w.heap.size + 1, 2, none⟩) (by show w.heap.size + 1 < W6.heap.size; omega) (.slice T tl.length t)).setCell (p := ⟨w.heap.size + 1, 3, none⟩) (by show w.heap.size + 1 < W6.heap.size; omega) (.int .i64 need)).setCell (p := ⟨w.heap.size + 1, 4, none⟩) (by show w.heap.size + 1 < W6.heap.size; omega) (.slice A2 (cl.length + tl.length) c2))
          exact bodyPost_ret (v := .tuple #[.agg #[.int .i64 traits, .slice C cl.length c, .slice T tl.length t, .int .i64 need, .slice A2 (cl.length + tl.length) c2], .int .i64 0]) (by simp [results, Try.results30, go_sem, hrc]) rfl ⟨A2, c2, sh, rfl, HCo.out, hse.less (by omega), hbe⟩
end Go.Proofs.Ytijhbcmmoagdmaa

namespace Go.Proofs.Ytijhbcmmoagdmaa
open Go.RowKit Go.Maps

/-- All blocks with P stay. -/
structure Fr (P : Nat → Prop) (w w' : World) : Prop where
  size : w.heap.size ≤ w'.heap.size
  blk : ∀ b, b < w.heap.size → P b → w'.heap[b]? = w.heap[b]?
section
variable {P Q : Nat → Prop} {w w' w'' : World}
theorem Fr.refl (P : Nat → Prop) (w : World) : Fr P w w := ⟨Nat.le_refl _, fun _ _ _ => rfl⟩
theorem Fr.trans (h : Fr P w w') (h' : Fr P w' w'') : Fr P w w'' := ⟨Nat.le_trans h.size h'.size, fun b hb hp => (h'.blk b (Nat.lt_of_lt_of_le hb h.size) hp).trans (h.blk b hb hp)⟩
theorem Fr.below (h : Below w.heap.size w w') : Fr P w w' := ⟨h.size, fun b hb _ => h.block b hb⟩
theorem Fr.set {p : Addr} (hp : ¬ P p.block) (v : Value) : Fr P w (w.setCell p v) := ⟨by simp, fun b _ hb => Below.heap_setCell _ _ _ _ (fun e => hp (e ▸ hb))⟩
theorem Fr.grown {row : Option Nat} (h : w.grownBy w' row) (hr : ∀ b, P b → some b ≠ row) : Fr P w w' := ⟨h.size, fun b hb hp => h.block b hb (hr b hp)⟩
theorem Fr.imp (h : Fr P w w') (hq : ∀ b, Q b → P b) : Fr Q w w' := ⟨h.size, fun b hb hp => h.blk b hb (hq b hp)⟩
theorem Fr.cell (h : Fr P w w') {b o : Nat} (hb : b < w.heap.size) (hp : P b) : w'.cell? ⟨b, o, none⟩ = w.cell? ⟨b, o, none⟩ := World.cell?_of_block (h.blk b hb hp)
end
def FlatP {α : Type} (n : Nat) (f : α → List Value) (w : World) (P : Nat → Prop) (A : Option Addr) (l : List α) : Prop :=
  ∀ k, (h : k < l.length) → ∃ b off, A = some ⟨b, off, none⟩ ∧ b < w.heap.size ∧ P b ∧ ∀ i, i < n → w.cell? ⟨b, off + k * n + i, none⟩ = (f l[k])[i]?
section
variable {α : Type} {n : Nat} {f : α → List Value} {w w' : World} {P Q : Nat → Prop} {A : Option Addr} {l : List α}
theorem FlatP.flat (h : FlatP n f w P A l) : Flat n f w w.heap.size A l := fun k hk => by
  obtain ⟨b, off, e, h2, _, h4⟩ := h k hk
  exact ⟨b, off, e, h2, h4⟩
theorem FlatP.move (h : FlatP n f w P A l) (hf : Fr P w w') : FlatP n f w' P A l := fun k hk => by
  obtain ⟨b, off, e, h1, h2, h3⟩ := h k hk
  exact ⟨b, off, e, Nat.lt_of_lt_of_le h1 hf.size, h2, fun i hi => (hf.cell h1 h2).trans (h3 i hi)⟩
theorem FlatP.imp (h : FlatP n f w P A l) (hq : ∀ b, b < w.heap.size → P b → Q b) : FlatP n f w Q A l := fun k hk => by
  obtain ⟨b, off, e, h1, h2, h3⟩ := h k hk
  exact ⟨b, off, e, h1, hq b h1 h2, h3⟩
theorem FlatP.of_flat {B : Nat} (h : Flat n f w B A l) (hB : B ≤ w.heap.size) (hP : ∀ b, b < B → P b) : FlatP n f w P A l := fun k hk => by
  obtain ⟨b, off, e, h1, h3⟩ := h k hk
  exact ⟨b, off, e, Nat.lt_of_lt_of_le h1 hB, hP b h1, h3⟩
theorem FlatP.of_own (hn : ∀ x, (f x).length = n) (h0 : 0 < n) {base : Nat} {c : Nat} {t : TypeId} (h : w.ownsRow base t n (.slice A l.length c) l.length (l.flatMap f)) (hP : ∀ b, base ≤ b → b < w.heap.size → (Value.slice A l.length c).ownBlock = some b → P b) : FlatP n f w P A l := fun k hk => by
  obtain ⟨b, off, e, h2, h4⟩ := Flat.of_own hn h0 h k hk
  subst e
  have h5 := h.lt b rfl
  exact ⟨b, off, rfl, h2, hP b h5.1 h2 rfl, h4⟩
theorem FlatP.news (hn : ∀ x, (f x).length = n) (h0 : 0 < n) (h : FlatP n f w P A l) : ∀ ad, A = some ad → ∀ j u, (l.flatMap f)[j]? = some u → w.cell? (ad.add j) = some u := Flat.news hn h0 h.flat
theorem FlatP.none_ (h : FlatP n f w P none l) : l.length = 0 := Flat.none_ h.flat
end
structure SclP (w : World) (P : Nat → Prop) (x : SclD) : Prop where
  cuts : FlatP 1 intC w P x.A x.v.cuts
  pts : FlatP 1 intC w P x.B x.v.pts
structure SclsP (w : World) (P : Nat → Prop) (A : Option Addr) (l : List SclD) : Prop where
  row : FlatP 3 sclC w P A l
  each : ∀ x ∈ l, SclP w P x
section
variable {w w' : World} {P Q : Nat → Prop}
theorem SclP.move {x : SclD} (h : SclP w P x) (hf : Fr P w w') : SclP w' P x := ⟨h.cuts.move hf, h.pts.move hf⟩
theorem SclP.imp {x : SclD} (h : SclP w P x) (hq : ∀ b, b < w.heap.size → P b → Q b) : SclP w Q x := ⟨h.cuts.imp hq, h.pts.imp hq⟩
theorem SclsP.move {A : Option Addr} {l : List SclD} (h : SclsP w P A l) (hf : Fr P w w') : SclsP w' P A l := ⟨h.row.move hf, fun x hx => (h.each x hx).move hf⟩
theorem SclsP.imp {A : Option Addr} {l : List SclD} (h : SclsP w P A l) (hq : ∀ b, b < w.heap.size → P b → Q b) : SclsP w Q A l := ⟨h.row.imp hq, fun x hx => (h.each x hx).imp hq⟩
theorem SclsP.at_ {A : Option Addr} {l : List SclD} (h : SclsP w P A l) : SclsAt w w.heap.size A l := ⟨h.row.flat, fun x hx => ⟨(h.each x hx).cuts.flat, (h.each x hx).pts.flat⟩⟩
theorem SclsP.of_at {B : Nat} {A : Option Addr} {l : List SclD} (h : SclsAt w B A l) (hB : B ≤ w.heap.size) (hP : ∀ b, b < B → P b) : SclsP w P A l := ⟨.of_flat h.row hB hP, fun x hx => ⟨.of_flat (h.each x hx).cuts hB hP, .of_flat (h.each x hx).pts hB hP⟩⟩
end
/-- An element of an owned row, turned. -/
theorem flat_set {α : Type} {f : α → List Value} {n : Nat} (hn : ∀ x, (f x).length = n) : ∀ (l : List α) (k : Nat) (h : k < l.length) (y : α) (j : Nat) (u : Value), j < n → f y = (f l[k]).set j u → (l.set k y).flatMap f = (l.flatMap f).set (k * n + j) u
  | x :: l, 0, _, y, j, u, hj, e => by
    show f y ++ l.flatMap f = (f x ++ l.flatMap f).set (0 * n + j) u
    rw [Nat.zero_mul, Nat.zero_add, List.set_append_left _ _ (by rw [hn]; exact hj)]
    congr 1
  | x :: l, k + 1, h, y, j, u, hj, e => by
    have h1 := flat_set hn l k (by simpa using h) y j u hj e
    have e2 : (k + 1) * n + j = (f x).length + (k * n + j) := by rw [hn, Nat.succ_mul]; omega
    show f x ++ (l.set k y).flatMap f = (f x ++ l.flatMap f).set ((k + 1) * n + j) u
    rw [h1, e2, List.set_append_right _ _ (by omega), Nat.add_sub_cancel_left]
end Go.Proofs.Ytijhbcmmoagdmaa

namespace Go.Proofs.Ytijhbcmmoagdmaa
open Go.RowKit Go.Maps

theorem cardInfo : (Try.prog.info? 53).map (fun i => (i.zero, i.size, i.bytes)) = some (some (.agg #[.int .i64 0, .int .i64 0, .slice none 0 0]), 3, 40) := by kernel_rfl
theorem treeInfo : (Try.prog.info? 58).map (fun i => (i.zero, i.size, i.bytes)) = some (some (.agg #[.int .i64 0, .slice none 0 0]), 2, 32) := by kernel_rfl
theorem scaleInfo : (Try.prog.info? 55).map (fun i => (i.zero, i.size, i.bytes)) = some (some (.agg #[.slice none 0 0, .slice none 0 0, .int .i64 0]), 3, 56) := by kernel_rfl
theorem nodeInfo : (Try.prog.info? 74).map (fun i => (i.zero, i.size, i.bytes)) = some (some (.agg #[.int .i64 0, .int .i64 0, .int .i64 0, .int .i64 0, .int .i64 0]), 5, 40) := by kernel_rfl
section
variable {P : Program} (w : World)
/-- Nothing is appended to a row of the call's own. -/
theorem run_append_nothing (base : Nat) (t ty e : TypeId) (i : TypeInfo) (size : Nat) (ht : P.underlying t = some (.slice e)) (hi : P.info? e = some i)
    (v : Value) (n : Nat) (xs : List Value) (hown : w.ownsRow base e size v n xs) (c : Nat) : (Builtin.append_ #[t, t] ty #[v, .slice none 0 c]).run P w = .ok v w := by
  rcases hown.2 with ⟨rfl, rfl⟩ | ⟨g, cap, cur, rfl, _, _, hnc, _⟩
  · simp [Builtin.append_, run_underlying ht, sizeOf, typeInfo, hi, Builtin.lenOf, Builtin.firstCells]
  · simp [Builtin.append_, run_underlying ht, sizeOf, typeInfo, hi, Builtin.lenOf, Builtin.firstCells, hnc, storeCells]

/-- 'append(out, src...)', out the call's own, src whatever: nil, empty or not. -/
theorem wpList_append_src {ops : Array Oper} {rest : List Oper} {o : Oper} {a : Act} {Q : Exit → Act → World → Prop} (hgd : o.guard = none) (s x : Operand) (t : TypeId)
    (ho : o.op = .call { callee := .builtin .append, args := #[s, x], argTypes := #[t, t] })
    (base : Nat) (e : TypeId) (i : TypeInfo) (z : Value) (size bytes : Nat) (ht : P.underlying t = some (.slice e)) (hi : P.info? e = some i) (hz : i.zero = some z)
    (hsize : i.size = size) (hby : i.bytes = bytes) (hzs : z.cells.size = size) (hsz : 0 < size)
    (v : Value) (n : Nat) (xs : List Value) (hs : a.eval s = v) (hown : w.ownsRow base e size v n xs)
    (A : Option Addr) (m c : Nat) (news : List Value) (hx : a.eval x = .slice A m c) (hl : news.length = m * size) (hA : A = none → m = 0) (hnews : ∀ ad, A = some ad → ∀ j u, news[j]? = some u → w.cell? (ad.add j) = some u)
    (h1 : ∀ u ∈ news, u.oneCell' = true) (h63 : n + m ≤ maxLen) (hbytes : (n + m) * bytes ≤ 140737488355328) (hbase : base ≤ w.heap.size)
    (h : ∀ v' w', w'.ownsRow base e size v' (n + m) (xs ++ news) → w.grownBy w' v.ownBlock → (v'.ownBlock = v.ownBlock ∨ v'.ownBlock = some w.heap.size) → wpList P ops Q rest (a.put o.dst v') w') : wpList P ops Q (o :: rest) a w := by
  cases A with
  | some ad => exact wpList_append_own_at w hgd s x t ho base e i z size bytes ht hi hz hsize hby hzs hsz v n xs hs hown ad m c news hx hl (hnews ad rfl) h1 h63 hbytes hbase fun v' w' h2 h3 _ h5 => h v' w' h2 h3 h5
  | none =>
    obtain rfl := hA rfl
    have hn : news = [] := List.eq_nil_of_length_eq_zero (by simpa using hl)
    subst hn
    refine wpList_plain hgd fun K hK => ?_
    have hrun := run_append_nothing (P := P) w base t o.type e i size ht hi v n xs hown c
    unfold Oper.wp execOp
    simp only [ho, resolve, invoke, builtin, Sem.run_bind, Sem.run_pure, Result.andThen_ok, List.map_toArray, List.map_cons, List.map_nil, hs, hx, hrun]
    exact hK _ _ (h v w (by simpa using hown) (World.grownBy.refl w _) (.inl rfl))
end
/-- 'append(out, src...)' at a step of a region that draws. -/
theorem step_append_src {P : Program} {w : World} {ops : Array Oper} {o : Oper} {a : Act} {K : Act → World → Prop} {Q : Exit → Act → World → Prop} {E : Prop} (hgd : o.guard = none) (s x : Operand) (t : TypeId)
    (ho : o.op = .call { callee := .builtin .append, args := #[s, x], argTypes := #[t, t] })
    (base : Nat) (e : TypeId) (i : TypeInfo) (z : Value) (size bytes : Nat) (ht : P.underlying t = some (.slice e)) (hi : P.info? e = some i) (hz : i.zero = some z)
    (hsize : i.size = size) (hby : i.bytes = bytes) (hzs : z.cells.size = size) (hsz : 0 < size)
    (v : Value) (n : Nat) (xs : List Value) (hs : a.eval s = v) (hown : w.ownsRow base e size v n xs)
    (A : Option Addr) (m c : Nat) (news : List Value) (hx : a.eval x = .slice A m c) (hl : news.length = m * size) (hA : A = none → m = 0) (hnews : ∀ ad, A = some ad → ∀ j u, news[j]? = some u → w.cell? (ad.add j) = some u)
    (h1 : ∀ u ∈ news, u.oneCell' = true) (h63 : n + m ≤ maxLen) (hbytes : (n + m) * bytes ≤ 140737488355328) (hbase : base ≤ w.heap.size)
    (h : ∀ v' w', w'.ownsRow base e size v' (n + m) (xs ++ news) → w.grownBy w' v.ownBlock → (v'.ownBlock = v.ownBlock ∨ v'.ownBlock = some w.heap.size) → K (a.put o.dst v') w') :
    if Region.wanted o (yielded ops a.tmps) = true then Oper.wp P o a w K Q else E := by
  have hw : Region.wanted o (yielded ops a.tmps) = true := by simp [Region.wanted, hgd]
  rw [if_pos hw]
  cases A with
  | some ad =>
    obtain ⟨v', w', hr, h2, h3, _, h5⟩ := run_append_own_at (P := P) w base t o.type e i z size bytes ht hi hz hsize hby hzs hsz v n xs hown ad m c news hl (hnews ad rfl) h1 h63 hbytes hbase
    unfold Oper.wp execOp
    simp only [ho, resolve, invoke, builtin, Sem.run_bind, Sem.run_pure, Result.andThen_ok, List.map_toArray, List.map_cons, List.map_nil, hs, hx, hr]
    exact h v' w' h2 h3 h5
  | none =>
    obtain rfl := hA rfl
    have hn : news = [] := List.eq_nil_of_length_eq_zero (by simpa using hl)
    subst hn
    have hrun := run_append_nothing (P := P) w base t o.type e i size ht hi v n xs hown c
    unfold Oper.wp execOp
    simp only [ho, resolve, invoke, builtin, Sem.run_bind, Sem.run_pure, Result.andThen_ok, List.map_toArray, List.map_cons, List.map_nil, hs, hx, hrun]
    exact h v w (by simpa using hown) (World.grownBy.refl w _) (.inl rfl)
theorem own_drew {w : World} {base : Nat} {e : TypeId} {size n : Nat} {v : Value} {xs : List Value} (h : w.ownsRow base e size v n xs) : w.drew.ownsRow base e size v n xs := h
end Go.Proofs.Ytijhbcmmoagdmaa

namespace Go.Proofs.Ytijhbcmmoagdmaa
open Go.RowKit Go.Maps

theorem mod4_put {w : World} {g : Nat} {a0 a1 a2 a3 c1 : Value} {t : TypeId} (h : Blk w g #[a0, a1, a2, a3] t) : Blk (w.setCell ⟨g, 1, none⟩ c1) g #[a0, c1, a2, a3] t := by
  have := h.set 1 c1
  simpa using this
/-- Neither the model's block nor the answer's, nor a row's. -/
def Nt (b0 : Nat) (row : Option Nat) (b : Nat) : Prop := (b < b0 ∨ b0 + 1 < b) ∧ some b ≠ row
/-- The cards, of which some are new. -/
structure TB (b0 : Nat) (wr : World) (A1 : Option Addr) (n c1 : Nat) (cl ml : List CrdD) : Prop where
  eq : ml.map CrdD.v = cl.map CrdD.v
  len : ml.length = n
  own : wr.ownsRow (b0 + 1 + 1) 53 3 (.slice A1 n c1) n (ml.flatMap crdC)
  each : ∀ x ∈ ml, SclsP wr (Nt b0 (Value.slice A1 n c1).ownBlock) x.S x.scales

/-- The scales of one card, of which some are new. -/
structure SI (b0 g lo : Nat) (wr : World) (S1 : Option Addr) (n s1 : Nat) (sl sl2 : List SclD) : Prop where
  eq : sl2.map SclD.v = sl.map SclD.v
  len : sl2.length = n
  own : wr.ownsRow lo 55 3 (.slice S1 n s1) n (sl2.flatMap sclC)
  each : ∀ x ∈ sl2, SclP wr (fun b => Nt b0 (some g) b ∧ some b ≠ (Value.slice S1 n s1).ownBlock) x
theorem grown_fresh {B g n c : Nat} {w W w' : World} (hg : W.grownBy w' (Value.slice (some ⟨g, 0, none⟩) n c).ownBlock) (hB : Below B w W) (hb : B ≤ W.heap.size) (hBg : B ≤ g) : Below B w w' := hB.grown hg hb (fun k e => by have e2 : g = k := Option.some.inj e; omega)
theorem blk_fresh {g g' n c : Nat} {W w' : World} {cs : Array Value} {t : TypeId} (hg : W.grownBy w' (Value.slice (some ⟨g, 0, none⟩) n c).ownBlock) (h : Blk W g' cs t) (hne : g' ≠ g) : Blk w' g' cs t := h.grown hg (fun e => hne (Option.some.inj e))
theorem own_blk {W : World} {g base size : Nat} {t : TypeId} (h : Blk W g #[] t) (hb : base ≤ g) : W.ownsRow base t size (.slice (some ⟨g, 0, none⟩) 0 0) 0 [] :=
  ⟨by simp, .inr ⟨g, 0, #[], rfl, hb, h, Nat.le_refl _, by simp [maxLen], by simp, by simp⟩⟩

theorem own_fr {w w' : World} {P : Nat → Prop} {base : Nat} {e : TypeId} {size n : Nat} {v : Value} {xs : List Value} (h : w.ownsRow base e size v n xs) (hF : Fr P w w') (hP : ∀ g, v.ownBlock = some g → P g) : w'.ownsRow base e size v n xs := by
  refine ⟨h.1, ?_⟩
  rcases h.2 with h0 | ⟨g, cap, cur, h1, h2, h3, h4⟩
  · exact .inl h0
  · exact .inr ⟨g, cap, cur, h1, h2, (hF.blk g (Array.getElem?_eq_some_iff.1 h3).1 (hP g (by rw [h1]; rfl))).trans h3, h4⟩
theorem map_set_same {α β : Type} (f : α → β) (l : List α) (i : Nat) (h : i < l.length) (y : α) (hy : f y = f l[i]) : (l.set i y).map f = l.map f := by
  apply List.ext_getElem
  · simp
  · intro q h1 h2
    rw [List.getElem_map, List.getElem_map, List.getElem_set]
    split
    · rename_i e; subst e; exact hy
    · rfl
theorem tb_set {b0 g i n c1 s s1 : Nat} {w0 wc we : World} {cl ml : List CrdD} {wt base : Int} {sl sl2 : List SclD} {S S1 : Option Addr} (HT : TB b0 w0 (some ⟨g, 0, none⟩) n c1 cl ml) (hi : i < ml.length) (hY : ml[i] = ⟨wt, base, sl, S, s⟩)
    (oC : wc.ownsRow (b0 + 1 + 1) 53 3 (.slice (some ⟨g, 0, none⟩) n c1) n ((ml.flatMap crdC).set (i * 3 + 2) (.slice S1 sl.length s1))) (hF : Fr (fun b => b ≠ g) w0 wc) (hFk : Fr (fun b => some b ≠ (Value.slice S1 sl.length s1).ownBlock) wc we)
    (HS : SI b0 g w0.heap.size we S1 sl.length s1 sl sl2) (hb0 : b0 + 1 < w0.heap.size) (hg : g < w0.heap.size) : TB b0 we (some ⟨g, 0, none⟩) n c1 cl (ml.set i ⟨wt, base, sl2, S1, s1⟩) := by
  have hS1 : ∀ b, b < w0.heap.size → some b ≠ (Value.slice S1 sl.length s1).ownBlock := fun b hb e => by have := (HS.own.lt b e.symm).1; omega
  refine ⟨?_, by rw [List.length_set]; exact HT.len, ?_, fun x hx => ?_⟩
  · rw [map_set_same CrdD.v ml i hi _ (by rw [hY]; simp only [CrdD.v]; rw [HS.eq]), HT.eq]
  · have e := flat_set crdC_len ml i hi ⟨wt, base, sl2, S1, s1⟩ 2 (.slice S1 sl.length s1) (by omega) (by rw [hY]; simp only [crdC]; rw [HS.len]; rfl)
    rw [e]
    exact own_fr oC hFk (fun g' e' => by cases e'; exact hS1 g hg)
  · rcases List.mem_or_eq_of_mem_set hx with h1 | h1
    · have h2 := (HT.each x h1).imp (Q := fun b => Nt b0 (some g) b ∧ some b ≠ (Value.slice S1 sl.length s1).ownBlock) (fun b hb hp => ⟨hp, hS1 b hb⟩)
      exact ((h2.move (hF.imp (fun b hp e => hp.1.2 (by rw [e])))).move (hFk.imp (fun b hp => hp.2))).imp (fun b _ hp => hp.1)
    · subst h1
      refine ⟨?_, fun y hy => (HS.each y hy).imp (fun b _ hp => hp.1)⟩
      have h3 := HS.own
      rw [← HS.len] at h3
      exact FlatP.of_own sclC_len (by decide) h3 (fun b hb1 _ _ => ⟨.inr (by omega), fun e' => by have e2 : b = g := Option.some.inj e'; omega⟩)
/-- What is appended to one row stays when another row is appended to. -/
theorem own_over {lo f9 n size : Nat} {w8 W2 w9 : World} {e : TypeId} {v : Value} {xs : List Value} {row : Option Nat} (h8 : w8.ownsRow lo e size v n xs) (hB : Below w8.heap.size w8 W2) (hg : W2.grownBy w9 row) (hr : row = some f9) (hne : ∀ b, v.ownBlock = some b → b ≠ f9) : w9.ownsRow lo e size v n xs := by
  subst hr
  have h2 := own_below h8 hB
  refine ⟨h2.1, ?_⟩
  rcases h2.2 with h0 | ⟨g, cap, cur, h1, h3, h4, h5⟩
  · exact .inl h0
  · exact .inr ⟨g, cap, cur, h1, h3, (hg.block g (Array.getElem?_eq_some_iff.1 h4).1 (fun e' => hne g (by rw [h1]; rfl) (Option.some.inj e'))).trans h4, h5⟩
/-- Its block is the fresh one, or newer than all. -/
theorem fresh_ne {v : Value} {f8 f9 s : Nat} {r : Option Nat} (ho : v.ownBlock = r ∨ v.ownBlock = some s) (hr : r = some f8) (h1 : f8 ≠ f9) (h2 : s ≠ f9) : ∀ b, v.ownBlock = some b → b ≠ f9 := by
  subst hr
  intro b hb
  rcases ho with e | e <;> (rw [hb] at e; have := Option.some.inj e; omega)
/-- A scale in new memory. -/
theorem si_put {b0 g lo k n s1 gs q8 q9 a b : Nat} {w0 w9 : World} {sl sl2 : List SclD} {v : Scl} {A B A8 A9 : Option Addr} (HS : SI b0 g lo w0 (some ⟨gs, 0, none⟩) n s1 sl sl2) (hk : k < sl2.length) (hz : sl2[k] = ⟨v, A, a, B, b⟩) (hgs : gs < w0.heap.size) (hlo : lo ≤ gs) (h0 : b0 + 1 < w0.heap.size) (hg0 : g < w0.heap.size)
    (hb9 : Below w0.heap.size w0 w9) (h8 : w9.ownsRow w0.heap.size 3 1 (.slice A8 v.cuts.length q8) v.cuts.length (v.cuts.flatMap intC)) (h9 : w9.ownsRow w0.heap.size 3 1 (.slice A9 v.pts.length q9) v.pts.length (v.pts.flatMap intC)) :
    SI b0 g lo ((w9.setCell ⟨gs, k * 3, none⟩ (.slice A8 v.cuts.length q8)).setCell ⟨gs, k * 3 + 1, none⟩ (.slice A9 v.pts.length q9)) (some ⟨gs, 0, none⟩) n s1 sl (sl2.set k ⟨v, A8, q8, A9, q9⟩) := by
  have hF : Fr (fun b => b ≠ gs) w9 ((w9.setCell ⟨gs, k * 3, none⟩ (.slice A8 v.cuts.length q8)).setCell ⟨gs, k * 3 + 1, none⟩ (.slice A9 v.pts.length q9)) := (Fr.set (p := ⟨gs, k * 3, none⟩) (fun e => e rfl) _).trans (Fr.set (p := ⟨gs, k * 3 + 1, none⟩) (fun e => e rfl) _)
  refine ⟨?_, by rw [List.length_set]; exact HS.len, ?_, fun x hx => ?_⟩
  · rw [map_set_same SclD.v sl2 k hk _ (by rw [hz]), HS.eq]
  · have e1 := flat_set sclC_len sl2 k hk ⟨v, A8, q8, B, b⟩ 0 (.slice A8 v.cuts.length q8) (by omega) (by rw [hz]; rfl)
    have e2 := flat_set sclC_len (sl2.set k ⟨v, A8, q8, B, b⟩) k (by rw [List.length_set]; exact hk) ⟨v, A8, q8, A9, q9⟩ 1 (.slice A9 v.pts.length q9) (by omega) (by rw [List.getElem_set_self]; rfl)
    rw [List.set_set] at e2
    rw [e2, e1, Nat.add_zero]
    exact (((own_below HS.own hb9).stored (k * 3) (.slice A8 v.cuts.length q8)).1.stored (k * 3 + 1) (.slice A9 v.pts.length q9)).1
  · have hP : ∀ b, w0.heap.size ≤ b → Nt b0 (some g) b ∧ some b ≠ (Value.slice (some ⟨gs, 0, none⟩) n s1).ownBlock := fun b hb => ⟨⟨.inr (by omega), fun e => by have := Option.some.inj e; omega⟩, fun e => by have e2 : b = gs := Option.some.inj e; omega⟩
    rcases List.mem_or_eq_of_mem_set hx with h1 | h1
    · exact ((HS.each x h1).move (Fr.below hb9)).move (hF.imp (fun b hp e => hp.2 (by rw [e]; rfl)))
    · subst h1
      refine ⟨(FlatP.of_own intC_len (by decide) h8 (fun b hb _ _ => hP b hb)).move (hF.imp (fun b hp e => hp.2 (by rw [e]; rfl))), (FlatP.of_own intC_len (by decide) h9 (fun b hb _ _ => hP b hb)).move (hF.imp (fun b hp e => hp.2 (by rw [e]; rfl)))⟩
end Go.Proofs.Ytijhbcmmoagdmaa

namespace Go.Proofs.Ytijhbcmmoagdmaa
open Go.RowKit Go.Maps

theorem Fr.of_below {P : Nat → Prop} {B : Nat} {w w' : World} (h : Below B w w') (hP : ∀ b, P b → b < B) : Fr P w w' := ⟨h.size, fun b _ hp => h.block b (hP b hp)⟩
/-- Cards in blocks with P. -/
structure CP (w : World) (P : Nat → Prop) (A : Option Addr) (l : List CrdD) : Prop where
  row : FlatP 3 crdC w P A l
  each : ∀ x ∈ l, SclsP w P x.S x.scales
section
variable {w w' : World} {P Q : Nat → Prop} {A : Option Addr} {l : List CrdD}
theorem CP.move (h : CP w P A l) (hf : Fr P w w') : CP w' P A l := ⟨h.row.move hf, fun x hx => (h.each x hx).move hf⟩
theorem CP.imp (h : CP w P A l) (hq : ∀ b, b < w.heap.size → P b → Q b) : CP w Q A l := ⟨h.row.imp hq, fun x hx => (h.each x hx).imp hq⟩
theorem CP.at_ (h : CP w P A l) : CrdsAt w w.heap.size A l := ⟨h.row.flat, fun x hx => (h.each x hx).at_⟩
end
theorem TB.cp {b0 n c1 : Nat} {w : World} {A1 : Option Addr} {cl ml : List CrdD} (h : TB b0 w A1 n c1 cl ml) : CP w (fun b => b < b0 ∨ b0 + 1 < b) A1 ml := by
  have h1 := h.own
  rw [← h.len] at h1
  exact ⟨FlatP.of_own crdC_len (by decide) h1 (fun b hb _ _ => .inr (by omega)), fun x hx => (h.each x hx).imp (fun b _ hp => hp.1)⟩
/-- The trees, of which some are new. -/
structure TTB (b0 lo : Nat) (wr : World) (T1 : Option Addr) (n t1 : Nat) (tl ml : List TreD) : Prop where
  eq : ml.map TreD.v = tl.map TreD.v
  len : ml.length = n
  own : wr.ownsRow lo 58 2 (.slice T1 n t1) n (ml.flatMap treC)
  each : ∀ x ∈ ml, FlatP 5 nodC wr (Nt b0 (Value.slice T1 n t1).ownBlock) x.T x.v.nodes
theorem tt_put {b0 lo i n t1 g s1 t0 : Nat} {wr w8 : World} {tl ml : List TreD} {v : Tre} {T0 S1 : Option Addr} (HT : TTB b0 lo wr (some ⟨g, 0, none⟩) n t1 tl ml) (hi : i < ml.length) (hz : ml[i] = ⟨v, T0, t0⟩) (hg : g < wr.heap.size) (h0 : b0 + 1 < wr.heap.size)
    (hb8 : Below wr.heap.size wr w8) (h8 : w8.ownsRow wr.heap.size 74 5 (.slice S1 v.nodes.length s1) v.nodes.length (v.nodes.flatMap nodC)) :
    TTB b0 lo (w8.setCell ⟨g, i * 2 + 1, none⟩ (.slice S1 v.nodes.length s1)) (some ⟨g, 0, none⟩) n t1 tl (ml.set i ⟨v, S1, s1⟩) := by
  have hF : Fr (fun b => b ≠ g) w8 (w8.setCell ⟨g, i * 2 + 1, none⟩ (.slice S1 v.nodes.length s1)) := Fr.set (p := ⟨g, i * 2 + 1, none⟩) (fun e => e rfl) _
  refine ⟨?_, by rw [List.length_set]; exact HT.len, ?_, fun x hx => ?_⟩
  · rw [map_set_same TreD.v ml i hi _ (by rw [hz]), HT.eq]
  · have e1 := flat_set treC_len ml i hi ⟨v, S1, s1⟩ 1 (.slice S1 v.nodes.length s1) (by omega) (by rw [hz]; rfl)
    rw [e1]
    exact ((own_below HT.own hb8).stored (i * 2 + 1) (.slice S1 v.nodes.length s1)).1
  · rcases List.mem_or_eq_of_mem_set hx with h1 | h1
    · exact ((HT.each x h1).move (Fr.below hb8)).move (hF.imp (fun b hp e => hp.2 (by rw [e]; rfl)))
    · subst h1
      exact (FlatP.of_own nodC_len (by decide) h8 (fun b hb _ _ => (⟨.inr (by omega), fun e => by have e2 : b = g := Option.some.inj e; omega⟩ : Nt b0 (some g) b))).move (hF.imp (fun b hp e => hp.2 (by rw [e])))
theorem TTB.at_ {b0 lo n t1 : Nat} {wr : World} {T1 : Option Addr} {tl ml : List TreD} (h : TTB b0 lo wr T1 n t1 tl ml) : TresAt wr wr.heap.size T1 ml := by
  have h1 := h.own
  rw [← h.len] at h1
  exact ⟨Flat.of_own treC_len (by decide) h1, fun x hx => (h.each x hx).flat⟩
/-- What the twin of a model is. -/
def TwinS (w : World) (traits need : Int) (cl : List CrdD) (tl : List TreD) (e : Ending) (w' : World) : Prop :=
  ∃ cl' tl' C' c' T' t', e = .returned (.agg #[.int .i64 traits, .slice C' (List.length cl') c', .slice T' (List.length tl') t', .int .i64 need]) ∧ cl'.map CrdD.v = cl.map CrdD.v ∧ tl'.map TreD.v = tl.map TreD.v ∧ MdlAt w' w'.heap.size ⟨traits, cl', C', c', tl', T', t', need⟩ ∧ Below w.heap.size w w'
/-- As large as the other one. -/
theorem MdlLe.twin {traits traits' need need' : Int} {cl cl' : List CrdD} {tl tl' : List TreD} {C C' T T' : Option Addr} {c c' t t' : Nat} (h : MdlLe ⟨traits, cl, C, c, tl, T, t, need⟩) (hc : cl'.map CrdD.v = cl.map CrdD.v) (ht : tl'.map TreD.v = tl.map TreD.v) : MdlLe ⟨traits', cl', C', c', tl', T', t', need'⟩ := by
  have e1 : cl'.length = cl.length := by simpa using congrArg List.length hc
  have e2 : tl'.length = tl.length := by simpa using congrArg List.length ht
  have hcm : ∀ x ∈ cl', ∃ y ∈ cl, x.scales.map SclD.v = y.scales.map SclD.v := fun x hx => by
    have h1 : x.v ∈ cl.map CrdD.v := by rw [← hc]; exact List.mem_map_of_mem hx
    obtain ⟨y, hy, e⟩ := List.mem_map.1 h1
    exact ⟨y, hy, (congrArg Crd.scales e).symm⟩
  refine ⟨?_, ?_, fun x hx => ?_, fun x hx s hs => ?_, fun x hx => ?_⟩
  · have := h.cards; simp only at this ⊢; omega
  · have := h.trees; simp only at this ⊢; omega
  · obtain ⟨y, hy, e⟩ := hcm x hx
    have h2 : x.scales.length = y.scales.length := by simpa using congrArg List.length e
    rw [h2]
    exact h.scales y hy
  · obtain ⟨y, hy, e⟩ := hcm x hx
    have h2 : s.v ∈ y.scales.map SclD.v := by rw [← e]; exact List.mem_map_of_mem hs
    obtain ⟨z, hz, e3⟩ := List.mem_map.1 h2
    rw [← e3]
    exact h.scl y hy z hz
  · have h1 : x.v ∈ tl.map TreD.v := by rw [← ht]; exact List.mem_map_of_mem hx
    obtain ⟨y, hy, e⟩ := List.mem_map.1 h1
    rw [← e]
    exact h.nodes y hy
end Go.Proofs.Ytijhbcmmoagdmaa
