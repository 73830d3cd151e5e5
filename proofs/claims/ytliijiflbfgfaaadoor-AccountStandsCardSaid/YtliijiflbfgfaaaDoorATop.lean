/- Fate, by the program: the same as the reference tells. -/
import Derived.Test.YtliijiflbfgfaaaDoorATopS
import Derived.Test.YtliijiflbfgfaaaDoorAFtP
import Derived.Test.YtliijiflbfgfaaaDoorAFate

namespace Go.Proofs.YtliijiflbfgfaaaDoor
open Go.RowKit Go.Maps

theorem fateT_eq {l : List Rep} {id d : Int} (hc : checkV l = 0) (hd : inN d 0 100000 = true) : fateT (fateP (knownL l d) id) = (fateF l id d, fateB l id d, fateE l id d) := by
  have hK := knOk_of hc d
  rw [fate_eq hK.nodup (fun r hr => (hK.id r hr).1) (fun r hr => (hK.kind r hr).2)]
  cases hf : fateV (knownL l d) id with
  | none =>
    obtain ⟨h1, h2, h3⟩ := fate_none hc hd hf
    rw [h1, h2, h3]; rfl
  | some x =>
    obtain ⟨f, b⟩ := x
    obtain ⟨h1, h2, h3⟩ := fate_some hc hd hf
    rw [h1, h2, h3]; rfl

set_option maxRecDepth 100000 in
set_option maxHeartbeats 4000000 in
theorem fateTop_any (l : List Rep) (A : Option Addr) (c : Nat) (id d : Int) (w : World) (h : Reps w w.heap.size A l) (hN : NeedsAt w) (hl : l.length ≤ 1000) (hwf : ∀ r ∈ l, RepWf r) (hid : (Lit.int .i64 id).wf = true) :
    Calls Tryd.prog 6 #[.slice A l.length c, .int .i64 id, .int .i64 d] w fun e w' => e = .returned (.tuple #[.int .u8 (fateF l id d), .int .i64 (fateB l id d), .int .i64 (fateE l id d)]) ∧ Below w.heap.size w w' := by
  by_cases hc : checkV l = 0
  · cases hd : inN d 0 100000 with
    | false =>
      have HH := Lib.hid (hear_arg l A c d w h hN hl hwf hc hd)
      have HV := Lib.hid (fate_arg id hc hd)
      clear hc hd h hN hwf
      go_enter Tryd.func6, Tryd.ntmps6
      go_wp2_with (go_at_call 11; (with_reducible refine (HH.out).mono ?_); rintro e w1 ⟨rfl, h1⟩)
      go_ret3
      exact ⟨by rw [HV.out.1, HV.out.2.1, HV.out.2.2]; rfl, h1.alloc h1.size _⟩
    | true =>
      have HH := Lib.hid (hear_ok l A c d w h hN hl hwf hc hd)
      have HV := Lib.hid (fateT_eq (id := id) hc hd)
      have HK := Lib.hid (knOk_of hc d)
      clear hc hd h hN hwf
      go_enter Tryd.func6, Tryd.ntmps6
      go_upto_region 4 with (go_at_call 11; (with_reducible refine (HH.out).mono ?_); rintro e w1 ⟨m0, m1, m2, m3, rfl, hHe⟩)
      have b2 := hHe.below.alloc hHe.below.size (.cells #[.map (some m0), .map (some m1), .map (some m2), .map (some m3)] 42)
      have k2 := (Blk.new w1 #[.map (some m0), .map (some m1), .map (some m2), .map (some m3)] 42).cell
      have hKN := hHe.kn.alloc (.cells #[.map (some m0), .map (some m1), .map (some m2), .map (some m3)] 42)
      have HF := Lib.hid (HV.out ▸ fateP_any m0 m1 m2 m3 8000 (knownL l d) id _ hKN HK.out hid)
      have Hb2 := Lib.hid b2
      clear b2 hKN hHe HH
      go_wp2_with (go_at_call 17; (with_reducible refine (HF.out).mono ?_); rintro e w3 ⟨rfl, h3⟩)
      go_ret3
      exact ⟨rfl, Hb2.out.trans (h3.mono Hb2.out.size)⟩
  · have HH := Lib.hid (hear_bad l A c d w h hN hl hwf hc)
    have hc0 : (checkV l != 0) = true := by simpa using hc
    have HV := Lib.hid (fate_bad id d hc)
    clear hc h hN hwf
    generalize checkV l = z at *
    go_enter Tryd.func6, Tryd.ntmps6
    go_wp2_with (go_at_call 11; (with_reducible refine (HH.out).mono ?_); rintro e w1 ⟨rfl, h1⟩)
    go_ret3
    exact ⟨by rw [HV.out.1, HV.out.2.1, HV.out.2.2]; rfl, h1.alloc h1.size _⟩

end Go.Proofs.YtliijiflbfgfaaaDoor
