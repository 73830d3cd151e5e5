/- The facts that stand, with the errors, by the reference; what is asked of what is known. -/
import Derived.Test.YtliijiflbfgfaaaDoorAStd
import Derived.Test.YtliijiflbfgfaaaDoorAKnW
import Derived.Test.YtliijiflbfgfaaaDoorAChkR

namespace Go.Proofs.YtliijiflbfgfaaaDoor
open Go.RowKit Go.Maps

theorem validB_parts {r : Rep} (h : validB r = true) : (0 ≤ r.id ∧ r.id ≤ 999999) ∧ (0 ≤ r.src ∧ r.src ≤ 999999) ∧ (0 ≤ r.acc ∧ r.acc ≤ 999999) ∧ (0 ≤ r.made ∧ r.made ≤ 100000) ∧ (0 ≤ r.about ∧ r.about ≤ 100000) ∧ (1 ≤ r.kind ∧ r.kind ≤ 9) := by
  unfold validB at h
  simp only [Bool.and_eq_true, inN_iff] at h
  obtain ⟨⟨⟨⟨⟨⟨h1, h2⟩, h3⟩, h4⟩, h5⟩, h6⟩, _⟩ := h
  exact ⟨h1, h2, h3, h4, h5, h6⟩
theorem knOk_of {l : List Rep} (h : checkV l = 0) (d : Int) : KnOk (knownL l d) := by
  obtain ⟨h1, h2, h3⟩ := checkV_zero.1 h
  have hs := knownL_spec (d := d) l
  exact ⟨Nat.le_trans (knownL_le l d) (by omega), hs.1, fun r hr => (validB_parts (h2 r (hs.2.1 r hr).1)).1, fun r hr => (validB_parts (h2 r (hs.2.1 r hr).1)).2.2.2.2.2⟩
def standE (l : List Rep) (d : Int) : Int := if checkV l = 0 then (if inN d 0 100000 = true then 0 else 2) else checkV l
def standR (l : List Rep) (d : Int) : List Rep := if standE l d = 0 then standL (knownL l d) else []
theorem own_base {w : World} {base base' : Nat} {e : TypeId} {size : Nat} {v : Value} {n : Nat} {xs : List Value} (h : w.ownsRow base e size v n xs) (hb : base' ≤ base) : w.ownsRow base' e size v n xs := by
  refine ⟨h.1, ?_⟩
  rcases h.2 with h0 | ⟨g, cap, cur, h1, h2, h3, h4⟩
  · exact .inl h0
  · exact .inr ⟨g, cap, cur, h1, Nat.le_trans hb h2, h3, h4⟩

set_option maxRecDepth 100000 in
set_option maxHeartbeats 1000000 in
theorem standing3F_any (l : List Rep) (A : Option Addr) (c : Nat) (d : Int) (w : World) (h : Reps w w.heap.size A l) (hl : l.length ≤ 1000) (hwf : ∀ r ∈ l, RepWf r) :
    Calls Tryd.prog 5 #[.slice A l.length c, .int .i64 d] w fun e w' => ∃ v, e = .returned (.tuple #[v, .int .i64 (standE l d)]) ∧ w'.ownsRow w.heap.size 47 8 v (standR l d).length ((standR l d).flatMap repCells) ∧ Below w.heap.size w w' := by
  have HCk := Lib.hid (check3_any l A c w h (by unfold maxLen; omega) hwf)
  by_cases hc : checkV l = 0
  · have Hc := Lib.hid hc
    rw [hc] at HCk
    cases hd : inN d 0 100000 with
    | false =>
      have He : Hid (standE l d = 2) := Lib.hid (by unfold standE; rw [if_pos hc, hd]; rfl)
      have HR : Hid (standR l d = []) := Lib.hid (by unfold standR; rw [He.out]; rfl)
      have HWi := Lib.hid (fun W => hd ▸ within3_any d 0 100000 W)
      clear hc hd
      go_enter Tryd.func5, Tryd.ntmps5
      go_wp2_with (first
        | (go_at_call 9; (with_reducible refine (HCk.out).mono ?_); rintro e w1 ⟨rfl, h1⟩)
        | (go_at_call 14; (with_reducible refine (HWi.out _).mono ?_); rintro e w2 ⟨rfl, rfl⟩))
      go_ret2
      exact ⟨_, by rw [He.out]; rfl, by rw [HR.out]; exact World.ownsRow_nil _ _ _ _, h1⟩
    | true =>
      have He : Hid (standE l d = 0) := Lib.hid (by unfold standE; rw [if_pos hc, hd]; rfl)
      have HR : Hid (standR l d = standL (knownL l d)) := Lib.hid (by unfold standR; rw [He.out]; rfl)
      have HWi := Lib.hid (fun W => hd ▸ within3_any d 0 100000 W)
      clear hc hd
      go_enter Tryd.func5, Tryd.ntmps5
      go_wp2_with (first
        | (go_at_call 9; (with_reducible refine (HCk.out).mono ?_); rintro e w1 ⟨rfl, h1⟩)
        | (go_at_call 14; (with_reducible refine (HWi.out _).mono ?_); rintro e w2 ⟨rfl, rfl⟩)
        | (go_at_call 16; (with_reducible refine (known3_any l A c d _ (h.later h1) hl).mono ?_); rintro e w3 ⟨v, rfl, hown, h3⟩; obtain ⟨A', c', rfl⟩ := own_slice hown; have hRK := Lib.hid (reps_own hown); have hb3 := h1.trans (h3.mono h1.size); clear hown)
        | (go_at_call 15; (with_reducible refine (standing3_any (knownL l d) A' c' _ hRK.out (knOk_of Hc.out d)).mono ?_); rintro e w4 ⟨v, rfl, hown, h4⟩))
      go_ret2
      exact ⟨_, by rw [He.out]; rfl, by rw [HR.out]; exact own_base hown hb3.size, hb3.trans (h4.mono hb3.size)⟩
  · have hc0 : (checkV l != 0) = true := by simpa using hc
    have He : Hid (standE l d = checkV l) := Lib.hid (by unfold standE; rw [if_neg hc])
    have HR : Hid (standR l d = []) := Lib.hid (by unfold standR; rw [He.out, if_neg hc])
    clear hc
    go_enter Tryd.func5, Tryd.ntmps5
    go_wp2_with (go_at_call 9; (with_reducible refine (HCk.out).mono ?_); rintro e w1 ⟨rfl, h1⟩)
    go_ret2
    exact ⟨_, by rw [He.out]; rfl, by rw [HR.out]; exact World.ownsRow_nil _ _ _ _, h1⟩

end Go.Proofs.YtliijiflbfgfaaaDoor
