/- Standing, by the program: the same as the reference tells. -/
import Derived.Test.YtliijiflbfgfaaaDoorAStP
import Derived.Test.YtliijiflbfgfaaaDoorAStF

namespace Go.Proofs.YtliijiflbfgfaaaDoor
open Go.RowKit Go.Maps

set_option maxRecDepth 100000 in
set_option maxHeartbeats 4000000 in
theorem standingTop_any (l : List Rep) (A : Option Addr) (c : Nat) (d : Int) (w : World) (h : Reps w w.heap.size A l) (hN : NeedsAt w) (hl : l.length ≤ 1000) (hwf : ∀ r ∈ l, RepWf r) :
    Calls Tryd.prog 4 #[.slice A l.length c, .int .i64 d] w fun e w' => ∃ v, e = .returned (.tuple #[v, .int .i64 (standE l d)]) ∧ w'.ownsRow w.heap.size 47 8 v (standR l d).length ((standR l d).flatMap repCells) ∧ Below w.heap.size w w' := by
  by_cases hc : checkV l = 0
  · cases hd : inN d 0 100000 with
    | false =>
      have HH := Lib.hid (hear_arg l A c d w h hN hl hwf hc hd)
      have He : Hid (standE l d = 2) := Lib.hid (by unfold standE; rw [if_pos hc, hd]; rfl)
      have HR : Hid (standR l d = []) := Lib.hid (by unfold standR; rw [He.out]; rfl)
      clear hc hd h hN hwf
      go_enter Tryd.func4, Tryd.ntmps4
      go_wp2_with (go_at_call 11; (with_reducible refine (HH.out).mono ?_); rintro e w1 ⟨rfl, h1⟩)
      go_ret2
      exact ⟨_, by rw [He.out]; rfl, by rw [HR.out]; exact World.ownsRow_nil _ _ _ _, h1.alloc h1.size _⟩
    | true =>
      have HH := Lib.hid (hear_ok l A c d w h hN hl hwf hc hd)
      have He : Hid (standE l d = 0) := Lib.hid (by unfold standE; rw [if_pos hc, hd]; rfl)
      have HR : Hid (standR l d = standL (knownL l d)) := Lib.hid (by unfold standR; rw [He.out]; rfl)
      have HK := Lib.hid (knOk_of hc d)
      have HKW := Lib.hid (knWf_of hc d)
      clear hc hd h hN hwf
      go_enter Tryd.func4, Tryd.ntmps4
      go_upto_region 4 with (go_at_call 11; (with_reducible refine (HH.out).mono ?_); rintro e w1 ⟨m0, m1, m2, m3, rfl, hHe⟩)
      have b2 := hHe.below.alloc hHe.below.size (.cells #[.map (some m0), .map (some m1), .map (some m2), .map (some m3)] 42)
      have k2 := (Blk.new w1 #[.map (some m0), .map (some m1), .map (some m2), .map (some m3)] 42).cell
      have hKN := hHe.kn.alloc (.cells #[.map (some m0), .map (some m1), .map (some m2), .map (some m3)] 42)
      have HS := Lib.hid (standingP_any m0 m1 m2 m3 8000 (knownL l d) _ hKN HK.out HKW.out)
      have HC := Lib.hid (fun Bs A cap zs hz W n0 h1 h2 h3 h4 => collectR_any Bs n0 A cap zs hz W h1 h2 h3 h4)
      have Hb2 := Lib.hid b2
      have hkl : (knownL l d).length ≤ 1000 := HK.out.len
      have hsl : (standL (knownL l d)).length ≤ 1000 := by
        rw [(standL_perm _).length_eq]
        unfold standS
        rw [List.length_map]
        exact Nat.le_trans (List.length_filter_le _ _) hkl
      clear b2 hKN hHe HH
      go_wp2_with (first
        | (go_at_call 13; (with_reducible refine (HS.out).mono ?_); rintro e w3 ⟨Bs, A3, c3, rfl, hSt⟩; have HC2 := Lib.hid (HC.out Bs A3 c3 _ hsl w3 w3.heap.size hSt.lt (Nat.le_refl _) hSt.cell hSt.reps); have h3 := Lib.hid hSt.below; clear hSt)
        | (go_at_call 12; (with_reducible refine (HC2.out).mono ?_); rintro e w4 ⟨v, rfl, hown, h4⟩))
      go_ret2
      have hb3 := Hb2.out.trans (h3.out.mono Hb2.out.size)
      exact ⟨_, by rw [He.out]; rfl, by rw [HR.out]; exact own_base hown hb3.size, hb3.trans (h4.mono hb3.size)⟩
  · have HH := Lib.hid (hear_bad l A c d w h hN hl hwf hc)
    have hc0 : (checkV l != 0) = true := by simpa using hc
    have He : Hid (standE l d = checkV l) := Lib.hid (by unfold standE; rw [if_neg hc])
    have HR : Hid (standR l d = []) := Lib.hid (by unfold standR; rw [He.out, if_neg hc])
    clear hc h hN hwf
    generalize checkV l = z at *
    go_enter Tryd.func4, Tryd.ntmps4
    go_wp2_with (go_at_call 11; (with_reducible refine (HH.out).mono ?_); rintro e w1 ⟨rfl, h1⟩)
    go_ret2
    exact ⟨_, by rw [He.out]; rfl, by rw [HR.out]; exact World.ownsRow_nil _ _ _ _, h1.alloc h1.size _⟩

end Go.Proofs.YtliijiflbfgfaaaDoor
