/- The points of all parts, by the reference. Written by a program. -/
import Derived.Test.YtkimojiakabbcaaGreatSRef5

namespace Go.Proofs.YtkimojiakabbcaaGreat
open Go.RowKit Go.Maps

theorem intInfo : (Tryz.prog.info? 3).map (fun i => (i.zero, i.size, i.bytes)) = some (some (.int .i64 0), 1, 8) := by kernel_rfl
theorem int_new (W : World) (n : Int) (t : TypeId) : ∀ j u, (intC n)[j]? = some u → (W.alloc (.cells #[.int .i64 n] t)).cell? ((⟨W.heap.size, 0, none⟩ : Addr).add j) = some u := fun j u hj => by
  have := (Blk.new W #[.int .i64 n] t).cell j
  rw [show ((⟨W.heap.size, 0, none⟩ : Addr).add j) = ⟨W.heap.size, j, none⟩ by rw [Addr.add]; simp; exact fun h => h.symm]
  refine this.trans ?_
  rw [← hj]; simp [intC]

theorem own_base {w : World} {base base' : Nat} {e : TypeId} {size : Nat} {v : Value} {n : Nat} {xs : List Value} (h : w.ownsRow base e size v n xs) (hb : base' ≤ base) : w.ownsRow base' e size v n xs := by
  refine ⟨h.1, ?_⟩
  rcases h.2 with h0 | ⟨g, cap, cur, h1, h2, h3, h4⟩
  · exact .inl h0
  · exact .inr ⟨g, cap, cur, h1, Nat.le_trans hb h2, h3, h4⟩

set_option maxRecDepth 100000 in
set_option maxHeartbeats 8000000 in
theorem all6_all (traits need : Int) (cl : List CrdD) (tl : List TreD) (C T : Option Addr) (c t : Nat) (x : List Int) (A : Option Addr) (a : Nat) (w : World) (h : MdlAt w w.heap.size ⟨traits, cl, C, c, tl, T, t, need⟩) (hx : IntsAt w w.heap.size A x) (hc : ∀ y ∈ cl, crdB x.length y.v = true) (ht : ∀ y ∈ tl, treB x.length y.v = true) (hcl : cl.length ≤ 6) (htl : tl.length ≤ 6) (hxl : x.length ≤ 10) :
    Calls Tryz.prog 88 #[.agg #[.int .i64 traits, .slice C cl.length c, .slice T tl.length t, .int .i64 need], .slice A x.length a] w fun e w' => ∃ A' c', e = .returned (.slice A' (ptsL ⟨traits, cl.map CrdD.v, tl.map TreD.v, need⟩ x).length c') ∧ w'.ownsRow w.heap.size 3 1 (.slice A' (ptsL ⟨traits, cl.map CrdD.v, tl.map TreD.v, need⟩ x).length c') (ptsL ⟨traits, cl.map CrdD.v, tl.map TreD.v, need⟩ x).length ((ptsL ⟨traits, cl.map CrdD.v, tl.map TreD.v, need⟩ x).flatMap intC) ∧ Below w.heap.size w w' := by
  obtain ⟨i0, hi0, hz0, hz1, hz2⟩ := info_parts intInfo
  have b1 := (Below.refl w.heap.size w).alloc (Nat.le_refl _) (.cells #[.int .i64 traits, .slice C cl.length c, .slice T tl.length t, .int .i64 need] 29)
  have k1 := Blk.new w #[.int .i64 traits, .slice C cl.length c, .slice T tl.length t, .int .i64 need] 29
  have g1 := k1.lt
  have k1c := k1.cell
  have b1s := b1.size
  have HL : Hid (ptsL ⟨traits, cl.map CrdD.v, tl.map TreD.v, need⟩ x = (cl.map fun y => onCrd y.v x) ++ (tl.map fun y => onTre y.v x)) := Lib.hid (by unfold ptsL; simp [Function.comp_def])
  have h1 := h.later b1
  have h1x := hx.later b1
  have H1 := Lib.hid h1
  have H1x := Lib.hid h1x
  have HC := Lib.hid hc
  have HT := Lib.hid ht
  clear h hx hc ht h1 h1x
  generalize ptsL ⟨traits, cl.map CrdD.v, tl.map TreD.v, need⟩ x = L at *
  go_enter Tryz.func88, Tryz.ntmps88
  go_wp2_with fail
  generalize hW1 : w.alloc (.cells #[.int .i64 traits, .slice C cl.length c, .slice T tl.length t, .int .i64 need] 29) = W1 at *
  clear hW1 k1c
  go_loopw [5, 6] (fun vv ii wr => ∃ (i : Nat) (A2 : Option Addr) (c2 : Nat), i ≤ cl.length ∧ vv = .slice A2 i c2 ∧ ii = .int .i64 i ∧ Hid (wr.ownsRow W1.heap.size 3 1 (.slice A2 i c2) i (((cl.take i).map fun y => onCrd y.v x).flatMap intC) ∧ Below W1.heap.size W1 wr)) (fun _ ii _ => cl.length - (vInt ii).toNat)
  case atStart => exact ⟨0, none, 0, Nat.zero_le _, rfl, rfl, Lib.hid ⟨World.ownsRow_nil _ _ _ _, Below.refl _ _⟩⟩
  case round =>
    obtain ⟨i, A2, c2, hi, rfl, rfl, hR⟩ := hrel
    obtain ⟨hO, hB⟩ := hR.out
    have k2 := k1.below hB g1
    have b2 := b1.trans (hB.mono b1s)
    have k2c := k2.cell
    have hzw : w.heap.size ≤ wr.heap.size := b2.size
    by_cases hlt : i < cl.length
    · have hil : (i : Int) < (cl.length : Int) := by omega
      have h2 := (H1.out.later hB).cards
      obtain ⟨b, off, rfl, hb, c0, c1, c2'⟩ := crds_at h2.row hlt
      have hmem := List.getElem_mem hlt
      have HCd := Lib.hid (onCard6_any cl[i] x A a wr (h2.each _ hmem) (H1x.out.later hB) (HC.out _ hmem) hxl)
      have HT1 : Hid (((cl.take (i + 1)).map fun y => onCrd y.v x).flatMap intC = ((cl.take i).map fun y => onCrd y.v x).flatMap intC ++ intC (onCrd cl[i].v x)) := Lib.hid (by rw [List.take_succ_eq_append_getElem hlt, List.map_append, List.flatMap_append]; simp)
      have HO := Lib.hid hO
      clear hR hO h2 hmem
      generalize onCrd cl[i].v x = o at *
      generalize cl[i] = y at *
      go_wp2_with (first
        | (go_at_call 96; (with_reducible refine (HCd.out).mono ?_); rintro e w5 ⟨rfl, h5⟩; have hownA := (own_below HO.out h5).alloc (.cells #[.int .i64 o] 3); have hb5 := (h5.alloc h5.size (.cells #[.int .i64 o] 3)); have hs5 := h5.size)
        | (at_builtin; refine wpList_append_own_at _ rfl _ _ 31 rfl W1.heap.size 3 i0 _ 1 8 Tryz.underlying31 hi0 hz0 hz1 hz2 rfl (by decide) _ _ _ rfl hownA ⟨w5.heap.size, 0, none⟩ 1 1 (intC o) rfl rfl (int_new w5 o 3) (intC_one _) (by unfold maxLen; omega) (by omega) (by simp; have := hB.size; omega) ?_; intro v' w6 hown6 hg6 _ _; obtain ⟨A3, c3, rfl⟩ := own_slice hown6))
      go_roundw
      case rel => exact ⟨i + 1, A3, c3, by omega, rfl, by go_num, Lib.hid ⟨by rw [HT1.out]; exact hown6, hB.trans ((hb5.mono (by have := hB.size; omega)).grown hg6 (by simp; have := hB.size; omega) (fun k e => by have := (hownA.lt k e).1; omega))⟩⟩
      case measure => simp [vInt]; omega
    · have hil : ¬ (i : Int) < (cl.length : Int) := by omega
      obtain rfl : i = cl.length := by omega
      rw [List.take_length] at hO
      have H2x := Lib.hid (H1x.out.later hB)
      have H2 := Lib.hid (H1.out.later hB)
      have HO0 := Lib.hid hO
      have HB1 := Lib.hid hB
      have hB1s := hB.size
      clear hR hO hB HC
      go_wp2_with fail
      clear k2c
      generalize wr = W2 at *
      go_loopw [5, 7] (fun vv ii wr => ∃ (i : Nat) (A3 : Option Addr) (c3 : Nat), i ≤ tl.length ∧ vv = .slice A3 (cl.length + i) c3 ∧ ii = .int .i64 i ∧ Hid (wr.ownsRow W1.heap.size 3 1 (.slice A3 (cl.length + i) c3) (cl.length + i) (((cl.map fun y => onCrd y.v x) ++ ((tl.take i).map fun y => onTre y.v x)).flatMap intC) ∧ Below W1.heap.size W1 wr)) (fun _ ii _ => tl.length - (vInt ii).toNat)
      case atStart => exact ⟨0, A2, c2, Nat.zero_le _, rfl, rfl, Lib.hid ⟨by rw [List.take_zero, List.map_nil, List.append_nil]; exact HO0.out, HB1.out⟩⟩
      case round =>
        obtain ⟨i, A3, c3, hi, rfl, rfl, hR⟩ := hrel
        obtain ⟨hO, hB⟩ := hR.out
        have k3 := k1.below hB g1
        have b3 := b1.trans (hB.mono b1s)
        have k3c := k3.cell
        have hzw3 : w.heap.size ≤ wr.heap.size := b3.size
        by_cases hlt : i < tl.length
        · have hil : (i : Int) < (tl.length : Int) := by omega
          have h3 := (H1.out.later hB).trees
          obtain ⟨b, off, rfl, hb, c0, c1⟩ := tres_at h3.row hlt
          have hmem := List.getElem_mem hlt
          have HCd := Lib.hid (onTree6_any tl[i] x A a wr (h3.each _ hmem) (H1x.out.later hB) (HT.out _ hmem) hxl)
          have HT1 : Hid (((cl.map fun y => onCrd y.v x) ++ ((tl.take (i + 1)).map fun y => onTre y.v x)).flatMap intC = ((cl.map fun y => onCrd y.v x) ++ ((tl.take i).map fun y => onTre y.v x)).flatMap intC ++ intC (onTre tl[i].v x)) := Lib.hid (by rw [List.take_succ_eq_append_getElem hlt, List.map_append, ← List.append_assoc, List.flatMap_append]; simp)
          have HO := Lib.hid hO
          clear hR hO h3 hmem
          generalize onTre tl[i].v x = o at *
          generalize tl[i] = y at *
          go_wp2_with (first
            | (go_at_call 97; (with_reducible refine (HCd.out).mono ?_); rintro e w5 ⟨rfl, h5⟩; have hownA := (own_below HO.out h5).alloc (.cells #[.int .i64 o] 3); have hb5 := (h5.alloc h5.size (.cells #[.int .i64 o] 3)); have hs5 := h5.size)
            | (at_builtin; refine wpList_append_own_at _ rfl _ _ 31 rfl W1.heap.size 3 i0 _ 1 8 Tryz.underlying31 hi0 hz0 hz1 hz2 rfl (by decide) _ _ _ rfl hownA ⟨w5.heap.size, 0, none⟩ 1 1 (intC o) rfl rfl (int_new w5 o 3) (intC_one _) (by unfold maxLen; omega) (by omega) (by simp; have := hB.size; omega) ?_; intro v' w6 hown6 hg6 _ _; obtain ⟨A4, c4, rfl⟩ := own_slice hown6))
          go_roundw
          case rel => exact ⟨i + 1, A4, c4, by omega, rfl, by go_num, Lib.hid ⟨by rw [HT1.out]; exact hown6, hB.trans ((hb5.mono (by have := hB.size; omega)).grown hg6 (by simp; have := hB.size; omega) (fun k e => by have := (hownA.lt k e).1; omega))⟩⟩
          case measure => simp [vInt]; omega
        · have hil : ¬ (i : Int) < (tl.length : Int) := by omega
          obtain rfl : i = tl.length := by omega
          have HO3 := Lib.hid hO
          clear hR hO
          go_wp2_with fail
          go_ret
          have hlen : L.length = cl.length + tl.length := by rw [HL.out]; simp
          have hO4 := HO3.out
          rw [List.take_length, ← HL.out, ← hlen] at hO4
          exact ⟨A3, c3, by rw [hlen]; rfl, own_base hO4 b1s, b3⟩
end Go.Proofs.YtkimojiakabbcaaGreat
