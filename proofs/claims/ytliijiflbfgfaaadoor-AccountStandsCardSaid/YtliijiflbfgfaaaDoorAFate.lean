/- What became of a report, by the reference. Written by genfate.py. -/
import Derived.Test.YtliijiflbfgfaaaDoorAStF

namespace Go.Proofs.YtliijiflbfgfaaaDoor
open Go.RowKit Go.Maps

def fateE (l : List Rep) (id d : Int) : Int := if checkV l = 0 then (if inN d 0 100000 = true then (match fateV (knownL l d) id with | none => 6 | some _ => 0) else 2) else checkV l
def fateF (l : List Rep) (id d : Int) : Int := if checkV l = 0 ∧ inN d 0 100000 = true then (match fateV (knownL l d) id with | none => 0 | some x => x.1) else 0
def fateB (l : List Rep) (id d : Int) : Int := if checkV l = 0 ∧ inN d 0 100000 = true then (match fateV (knownL l d) id with | none => 0 | some x => x.2) else 0
theorem fate_bad {l : List Rep} (id d : Int) (h : ¬ checkV l = 0) : fateF l id d = 0 ∧ fateB l id d = 0 ∧ fateE l id d = checkV l := by
  unfold fateF fateB fateE
  rw [if_neg (fun e => h e.1), if_neg (fun e => h e.1), if_neg h]
  exact ⟨rfl, rfl, rfl⟩
theorem fate_arg {l : List Rep} (id : Int) {d : Int} (h : checkV l = 0) (hd : inN d 0 100000 = false) : fateF l id d = 0 ∧ fateB l id d = 0 ∧ fateE l id d = 2 := by
  unfold fateF fateB fateE
  rw [if_neg (fun e => by rw [hd] at e; cases e.2), if_neg (fun e => by rw [hd] at e; cases e.2), if_pos h, hd]
  exact ⟨rfl, rfl, rfl⟩
theorem fate_none {l : List Rep} {id d : Int} (h : checkV l = 0) (hd : inN d 0 100000 = true) (hf : fateV (knownL l d) id = none) : fateF l id d = 0 ∧ fateB l id d = 0 ∧ fateE l id d = 6 := by
  unfold fateF fateB fateE
  rw [if_pos ⟨h, hd⟩, if_pos ⟨h, hd⟩, if_pos h, if_pos hd, hf]
  exact ⟨rfl, rfl, rfl⟩
theorem fate_some {l : List Rep} {id d : Int} {f b : Int} (h : checkV l = 0) (hd : inN d 0 100000 = true) (hf : fateV (knownL l d) id = some (f, b)) : fateF l id d = f ∧ fateB l id d = b ∧ fateE l id d = 0 := by
  unfold fateF fateB fateE
  rw [if_pos ⟨h, hd⟩, if_pos ⟨h, hd⟩, if_pos h, if_pos hd, hf]
  exact ⟨rfl, rfl, rfl⟩
theorem ix_of {l : List Rep} {id : Int} {r : Rep} (h : atR l id = some r) : ∃ k, ∃ hk : k < l.length, ixR l id = k ∧ l[k] = r := by
  rcases ixR_cases l id with ⟨_, e⟩ | ⟨k, hk, hx, e⟩
  · rw [h] at e; cases e
  · exact ⟨k, hk, hx, by rw [h] at e; exact (Option.some.inj e).symm⟩
theorem ix_none {l : List Rep} {id : Int} (h : atR l id = none) : ixR l id = -1 := by
  rcases ixR_cases l id with ⟨hx, _⟩ | ⟨k, hk, hx, e⟩
  · exact hx
  · rw [h] at e; cases e

set_option maxRecDepth 100000 in
set_option maxHeartbeats 4000000 in
theorem fate3_any (l : List Rep) (A : Option Addr) (c : Nat) (id d : Int) (w : World) (h : Reps w w.heap.size A l) (hl : l.length ≤ 1000) (hwf : ∀ r ∈ l, RepWf r) :
    Calls Tryd.prog 7 #[.slice A l.length c, .int .i64 id, .int .i64 d] w fun e w' => e = .returned (.tuple #[.int .u8 (fateF l id d), .int .i64 (fateB l id d), .int .i64 (fateE l id d)]) ∧ Below w.heap.size w w' := by
  have HCk := Lib.hid (check3_any l A c w h (by unfold maxLen; omega) hwf)
  by_cases hc : checkV l = 0
  · have Hc := Lib.hid hc
    rw [hc] at HCk
    cases hd : inN d 0 100000 with
    | false =>
      have HV := Lib.hid (fate_arg id hc hd)
      have HWi := Lib.hid (fun W => hd ▸ within3_any d 0 100000 W)
      clear hc hd
      go_enter Tryd.func7, Tryd.ntmps7
      go_wp2_with (first
        | (go_at_call 9; (with_reducible refine (HCk.out).mono ?_); rintro e w1 ⟨rfl, h1⟩)
        | (go_at_call 14; (with_reducible refine (HWi.out _).mono ?_); rintro e w2 ⟨rfl, rfl⟩))
      go_ret3
      exact ⟨by rw [HV.out.1, HV.out.2.1, HV.out.2.2]; rfl, h1⟩
    | true =>
      have HWi := Lib.hid (fun W => hd ▸ within3_any d 0 100000 W)
      have Hd := Lib.hid hd
      have HK := Lib.hid (knOk_of hc d)
      have HKn := Lib.hid (fun W hh => known3_any l A c d W hh hl)
      clear hc hd
      generalize hKe : knownL l d = K at *
      have HKe := Lib.hid hKe
      clear hKe
      have hKl : K.length ≤ 1000 := HK.out.len
      have HAt := Lib.hid (fun A2 c2 i W hh => at3_any K A2 c2 i W hh (by unfold maxLen; omega))
      have HAi := Lib.hid (fun A2 c2 r W hh => aims3_any K A2 c2 r W hh (by unfold maxLen; omega))
      have HWd := Lib.hid (fun A2 c2 i r W hh (hr : atR K i = some r) => withdrawn3_any K A2 c2 i W hh (by unfold maxLen; omega) (by rw [hr]; simp))
      have HCo := Lib.hid (fun A2 c2 i r W hh (hr : atR K i = some r) => corrected3_any K A2 c2 i W hh (by unfold maxLen; omega) HK.out.nodup (fun q hq => (HK.out.id q hq).1) (by rw [hr]; simp))
      cases hr : atR K id with
      | none =>
        have HV := Lib.hid (fate_none (id := id) Hc.out Hd.out (by rw [HKe.out]; unfold fateV; rw [hr]))
        have hx := ix_none hr
        have HA1 := Lib.hid (fun A2 c2 W hh => hx ▸ HAt.out A2 c2 id W hh)
        clear hr hx
        go_enter Tryd.func7, Tryd.ntmps7
        go_wp2_with (first
          | (go_at_call 9; (with_reducible refine (HCk.out).mono ?_); rintro e w1 ⟨rfl, h1⟩)
          | (go_at_call 14; (with_reducible refine (HWi.out _).mono ?_); rintro e w2 ⟨rfl, rfl⟩)
          | (go_at_call 16; (with_reducible refine (HKn.out _ (h.later h1)).mono ?_); rintro e w3 ⟨v, rfl, hown, h3⟩; obtain ⟨A', c', rfl⟩ := own_slice hown; have hRK := Lib.hid (reps_own hown); have hb3 := h1.trans (h3.mono h1.size); clear hown)
          | (go_at_call 18; (with_reducible refine (HA1.out _ _ _ hRK.out).mono ?_); rintro e w4 ⟨rfl, rfl⟩))
        go_ret3
        exact ⟨by rw [HV.out.1, HV.out.2.1, HV.out.2.2]; rfl, hb3⟩
      | some r =>
        obtain ⟨k, hk, hx, hkr⟩ := ix_of hr
        have HA1 := Lib.hid (fun A2 c2 W hh => hx ▸ HAt.out A2 c2 id W hh)
        have hkl : (k : Int) < (K.length : Int) := by omega
        have hk0 : ¬ (k : Int) < 0 := by omega
        have hkind := HK.out.kind r (by rw [← hkr]; exact List.getElem_mem hk)
        have Hr := Lib.hid hr
        have Hkr := Lib.hid hkr
        clear hx hr hkr
        by_cases h9 : r.kind = 9
        · have e9 : (r.kind == 9) = true := by simp [h9]
          cases ha : aimsB K r with
          | false =>
            have HV := Lib.hid (fate_some (f := 3) (b := -1) Hc.out Hd.out (by rw [HKe.out]; unfold fateV; rw [Hr.out]; dsimp only; rw [if_pos h9, if_neg (by unfold worksW; rw [ha]; simp)]))
            have HA2 := Lib.hid (fun A2 c2 W hh => ha ▸ HAi.out A2 c2 r W hh)
            clear h9 ha
            go_enter Tryd.func7, Tryd.ntmps7
            go_upto_region 10 with (first
              | (go_at_call 9; (with_reducible refine (HCk.out).mono ?_); rintro e w1 ⟨rfl, h1⟩)
              | (go_at_call 14; (with_reducible refine (HWi.out _).mono ?_); rintro e w2 ⟨rfl, rfl⟩)
              | (go_at_call 16; (with_reducible refine (HKn.out _ (h.later h1)).mono ?_); rintro e w3 ⟨v, rfl, hown, h3⟩; obtain ⟨A', c', rfl⟩ := own_slice hown; have hRK := Lib.hid (reps_own hown); have hb3 := h1.trans (h3.mono h1.size); clear hown)
              | (go_at_call 18; (with_reducible refine (HA1.out _ _ _ hRK.out).mono ?_); rintro e w4 ⟨rfl, rfl⟩))
            obtain ⟨b, off, rfl, hb, C⟩ := hRK.out.eight hk
            rw [Hkr.out] at C
            obtain ⟨c0, c1, c2', c3, c4, c5, c6, c7⟩ := C
            have hb4 := hb3.alloc hb3.size (.cells #[.int .i64 r.id, .int .i64 r.src, .int .i64 r.acc, .int .i64 r.made, .int .i64 r.about, .int .u8 r.kind, .int .i64 r.cents, .int .i64 r.of_] 47)
            have hx4 := (Below.refl w3.heap.size w3).alloc (Nat.le_refl _) (.cells #[.int .i64 r.id, .int .i64 r.src, .int .i64 r.acc, .int .i64 r.made, .int .i64 r.about, .int .u8 r.kind, .int .i64 r.cents, .int .i64 r.of_] 47)
            have hR4 := Lib.hid (hRK.out.later hx4)
            have kr := Blk.new w3 #[.int .i64 r.id, .int .i64 r.src, .int .i64 r.acc, .int .i64 r.made, .int .i64 r.about, .int .u8 r.kind, .int .i64 r.cents, .int .i64 r.of_] 47
            have krl := kr.lt
            go_wp2_with (first
              | (go_at_call 19; (with_reducible refine (HA2.out _ _ _ hR4.out).mono ?_); rintro e w5 ⟨rfl, h5⟩; have kr5 := kr.below h5 kr.lt; have kc5 := kr5.cell; have kf5 := kr5.free; have hz5 := h5.size; have hR5 := Lib.hid (hR4.out.later h5); have hb5 := hb4.trans (h5.mono hb4.size)))
            go_ret3
            exact ⟨by rw [HV.out.1, HV.out.2.1, HV.out.2.2]; rfl, hb5⟩
          | true =>
            obtain ⟨s, hs⟩ : ∃ s, atR K r.of_ = some s := by
              unfold aimsB at ha
              cases he : atR K r.of_ with
              | none => rw [he] at ha; cases ha
              | some s => exact ⟨s, rfl⟩
            obtain ⟨k2, hk2, hx2, hks⟩ := ix_of hs
            have Hks := Lib.hid hks
            have HA3 := Lib.hid (fun A2 c2 W hh => hx2 ▸ HAt.out A2 c2 r.of_ W hh)
            have hkl2 : (k2 : Int) < (K.length : Int) := by omega
            have hkA : kindAt K r.of_ = s.kind := by unfold kindAt; rw [hs]
            have HA2 := Lib.hid (fun A2 c2 W hh => ha ▸ HAi.out A2 c2 r W hh)
            by_cases hs9 : s.kind = 9
            · have es9 : (s.kind != 9) = false := by simp [hs9]
              have HV := Lib.hid (fate_some (f := 3) (b := -1) Hc.out Hd.out (by rw [HKe.out]; unfold fateV; rw [Hr.out]; dsimp only; rw [if_pos h9, if_neg (by unfold worksW; rw [hkA]; simp [hs9])]))
              clear h9 ha hs9 hs hx2 hks hkA
              go_enter Tryd.func7, Tryd.ntmps7
              go_upto_region 10 with (first
                | (go_at_call 9; (with_reducible refine (HCk.out).mono ?_); rintro e w1 ⟨rfl, h1⟩)
                | (go_at_call 14; (with_reducible refine (HWi.out _).mono ?_); rintro e w2 ⟨rfl, rfl⟩)
                | (go_at_call 16; (with_reducible refine (HKn.out _ (h.later h1)).mono ?_); rintro e w3 ⟨v, rfl, hown, h3⟩; obtain ⟨A', c', rfl⟩ := own_slice hown; have hRK := Lib.hid (reps_own hown); have hb3 := h1.trans (h3.mono h1.size); clear hown)
                | (go_at_call 18; (with_reducible refine (HA1.out _ _ _ hRK.out).mono ?_); rintro e w4 ⟨rfl, rfl⟩))
              obtain ⟨b, off, rfl, hb, C⟩ := hRK.out.eight hk
              rw [Hkr.out] at C
              obtain ⟨c0, c1, c2', c3, c4, c5, c6, c7⟩ := C
              have hb4 := hb3.alloc hb3.size (.cells #[.int .i64 r.id, .int .i64 r.src, .int .i64 r.acc, .int .i64 r.made, .int .i64 r.about, .int .u8 r.kind, .int .i64 r.cents, .int .i64 r.of_] 47)
              have hx4 := (Below.refl w3.heap.size w3).alloc (Nat.le_refl _) (.cells #[.int .i64 r.id, .int .i64 r.src, .int .i64 r.acc, .int .i64 r.made, .int .i64 r.about, .int .u8 r.kind, .int .i64 r.cents, .int .i64 r.of_] 47)
              have hR4 := Lib.hid (hRK.out.later hx4)
              have kr := Blk.new w3 #[.int .i64 r.id, .int .i64 r.src, .int .i64 r.acc, .int .i64 r.made, .int .i64 r.about, .int .u8 r.kind, .int .i64 r.cents, .int .i64 r.of_] 47
              have krl := kr.lt
              go_wp2_with (first
                | (go_at_call 19; (with_reducible refine (HA2.out _ _ _ hR4.out).mono ?_); rintro e w5 ⟨rfl, h5⟩; have kr5 := kr.below h5 kr.lt; have kc5 := kr5.cell; have kf5 := kr5.free; have hz5 := h5.size; have hR5 := Lib.hid (hR4.out.later h5); have hb5 := hb4.trans (h5.mono hb4.size); obtain ⟨_, _, e5, hb9, C5⟩ := hR5.out.eight hk2; cases e5; rw [Hks.out] at C5; have s5 := C5.c5; clear C5)
                | (go_at_call 18; (with_reducible refine (HA3.out _ _ _ hR5.out).mono ?_); rintro e w6 ⟨rfl, rfl⟩))
              go_ret3
              exact ⟨by rw [HV.out.1, HV.out.2.1, HV.out.2.2]; rfl, hb5⟩
            · have es9 : (s.kind != 9) = true := by simpa using hs9
              have HV := Lib.hid (fate_some (f := 4) (b := -1) Hc.out Hd.out (by rw [HKe.out]; unfold fateV; rw [Hr.out]; dsimp only; rw [if_pos h9, if_pos (by unfold worksW; rw [hkA, ha]; simp [hs9])]))
              clear h9 ha hs9 hs hx2 hks hkA
              go_enter Tryd.func7, Tryd.ntmps7
              go_upto_region 10 with (first
                | (go_at_call 9; (with_reducible refine (HCk.out).mono ?_); rintro e w1 ⟨rfl, h1⟩)
                | (go_at_call 14; (with_reducible refine (HWi.out _).mono ?_); rintro e w2 ⟨rfl, rfl⟩)
                | (go_at_call 16; (with_reducible refine (HKn.out _ (h.later h1)).mono ?_); rintro e w3 ⟨v, rfl, hown, h3⟩; obtain ⟨A', c', rfl⟩ := own_slice hown; have hRK := Lib.hid (reps_own hown); have hb3 := h1.trans (h3.mono h1.size); clear hown)
                | (go_at_call 18; (with_reducible refine (HA1.out _ _ _ hRK.out).mono ?_); rintro e w4 ⟨rfl, rfl⟩))
              obtain ⟨b, off, rfl, hb, C⟩ := hRK.out.eight hk
              rw [Hkr.out] at C
              obtain ⟨c0, c1, c2', c3, c4, c5, c6, c7⟩ := C
              have hb4 := hb3.alloc hb3.size (.cells #[.int .i64 r.id, .int .i64 r.src, .int .i64 r.acc, .int .i64 r.made, .int .i64 r.about, .int .u8 r.kind, .int .i64 r.cents, .int .i64 r.of_] 47)
              have hx4 := (Below.refl w3.heap.size w3).alloc (Nat.le_refl _) (.cells #[.int .i64 r.id, .int .i64 r.src, .int .i64 r.acc, .int .i64 r.made, .int .i64 r.about, .int .u8 r.kind, .int .i64 r.cents, .int .i64 r.of_] 47)
              have hR4 := Lib.hid (hRK.out.later hx4)
              have kr := Blk.new w3 #[.int .i64 r.id, .int .i64 r.src, .int .i64 r.acc, .int .i64 r.made, .int .i64 r.about, .int .u8 r.kind, .int .i64 r.cents, .int .i64 r.of_] 47
              have krl := kr.lt
              go_wp2_with (first
                | (go_at_call 19; (with_reducible refine (HA2.out _ _ _ hR4.out).mono ?_); rintro e w5 ⟨rfl, h5⟩; have kr5 := kr.below h5 kr.lt; have kc5 := kr5.cell; have kf5 := kr5.free; have hz5 := h5.size; have hR5 := Lib.hid (hR4.out.later h5); have hb5 := hb4.trans (h5.mono hb4.size); obtain ⟨_, _, e5, hb9, C5⟩ := hR5.out.eight hk2; cases e5; rw [Hks.out] at C5; have s5 := C5.c5; clear C5)
                | (go_at_call 18; (with_reducible refine (HA3.out _ _ _ hR5.out).mono ?_); rintro e w6 ⟨rfl, rfl⟩))
              go_ret3
              exact ⟨by rw [HV.out.1, HV.out.2.1, HV.out.2.2]; rfl, hb5⟩
        · have e9 : (r.kind == 9) = false := by simpa using h9
          have HW1 := Lib.hid (fun A2 c2 W hh => HWd.out A2 c2 id r W hh Hr.out)
          by_cases hw : 0 ≤ wdV K id
          · have ew : decide (0 ≤ wdV K id) = true := decide_eq_true hw
            have HV := Lib.hid (fate_some (f := 2) (b := wdV K id) Hc.out Hd.out (by rw [HKe.out]; unfold fateV; rw [Hr.out]; dsimp only; rw [if_neg h9, if_pos hw]))
            clear h9
            go_enter Tryd.func7, Tryd.ntmps7
            go_upto_region 10 with (first
              | (go_at_call 9; (with_reducible refine (HCk.out).mono ?_); rintro e w1 ⟨rfl, h1⟩)
              | (go_at_call 14; (with_reducible refine (HWi.out _).mono ?_); rintro e w2 ⟨rfl, rfl⟩)
              | (go_at_call 16; (with_reducible refine (HKn.out _ (h.later h1)).mono ?_); rintro e w3 ⟨v, rfl, hown, h3⟩; obtain ⟨A', c', rfl⟩ := own_slice hown; have hRK := Lib.hid (reps_own hown); have hb3 := h1.trans (h3.mono h1.size); clear hown)
              | (go_at_call 18; (with_reducible refine (HA1.out _ _ _ hRK.out).mono ?_); rintro e w4 ⟨rfl, rfl⟩))
            obtain ⟨b, off, rfl, hb, C⟩ := hRK.out.eight hk
            rw [Hkr.out] at C
            obtain ⟨c0, c1, c2', c3, c4, c5, c6, c7⟩ := C
            have hb4 := hb3.alloc hb3.size (.cells #[.int .i64 r.id, .int .i64 r.src, .int .i64 r.acc, .int .i64 r.made, .int .i64 r.about, .int .u8 r.kind, .int .i64 r.cents, .int .i64 r.of_] 47)
            have hx4 := (Below.refl w3.heap.size w3).alloc (Nat.le_refl _) (.cells #[.int .i64 r.id, .int .i64 r.src, .int .i64 r.acc, .int .i64 r.made, .int .i64 r.about, .int .u8 r.kind, .int .i64 r.cents, .int .i64 r.of_] 47)
            have hR4 := Lib.hid (hRK.out.later hx4)
            have kr := Blk.new w3 #[.int .i64 r.id, .int .i64 r.src, .int .i64 r.acc, .int .i64 r.made, .int .i64 r.about, .int .u8 r.kind, .int .i64 r.cents, .int .i64 r.of_] 47
            have krl := kr.lt
            go_wp2_with (first
              | (go_at_call 20; (with_reducible refine (HW1.out _ _ _ hR4.out).mono ?_); rintro e w5 ⟨rfl, h5⟩; have kr5 := kr.below h5 kr.lt; have kc5 := kr5.cell; have kf5 := kr5.free; have hz5 := h5.size; have hR5 := Lib.hid (hR4.out.later h5); have hb5 := hb4.trans (h5.mono hb4.size)))
            go_ret3
            exact ⟨by rw [HV.out.1, HV.out.2.1, HV.out.2.2]; rfl, hb5⟩
          · have ew : decide (0 ≤ wdV K id) = false := decide_eq_false hw
            by_cases h8 : r.kind = 8
            · have e8 : (r.kind == 8) = true := by simp [h8]
              cases hs : atR K r.of_ with
              | none =>
                have HV := Lib.hid (fate_some (f := 3) (b := -1) Hc.out Hd.out (by rw [HKe.out]; unfold fateV; rw [Hr.out]; dsimp only; rw [if_neg h9, if_neg hw, if_pos h8, hs]))
                have hx2 := ix_none hs
                have HA3 := Lib.hid (fun A2 c2 W hh => hx2 ▸ HAt.out A2 c2 r.of_ W hh)
                clear h9 h8 hs hx2
                go_enter Tryd.func7, Tryd.ntmps7
                go_upto_region 10 with (first
                  | (go_at_call 9; (with_reducible refine (HCk.out).mono ?_); rintro e w1 ⟨rfl, h1⟩)
                  | (go_at_call 14; (with_reducible refine (HWi.out _).mono ?_); rintro e w2 ⟨rfl, rfl⟩)
                  | (go_at_call 16; (with_reducible refine (HKn.out _ (h.later h1)).mono ?_); rintro e w3 ⟨v, rfl, hown, h3⟩; obtain ⟨A', c', rfl⟩ := own_slice hown; have hRK := Lib.hid (reps_own hown); have hb3 := h1.trans (h3.mono h1.size); clear hown)
                  | (go_at_call 18; (with_reducible refine (HA1.out _ _ _ hRK.out).mono ?_); rintro e w4 ⟨rfl, rfl⟩))
                obtain ⟨b, off, rfl, hb, C⟩ := hRK.out.eight hk
                rw [Hkr.out] at C
                obtain ⟨c0, c1, c2', c3, c4, c5, c6, c7⟩ := C
                have hb4 := hb3.alloc hb3.size (.cells #[.int .i64 r.id, .int .i64 r.src, .int .i64 r.acc, .int .i64 r.made, .int .i64 r.about, .int .u8 r.kind, .int .i64 r.cents, .int .i64 r.of_] 47)
                have hx4 := (Below.refl w3.heap.size w3).alloc (Nat.le_refl _) (.cells #[.int .i64 r.id, .int .i64 r.src, .int .i64 r.acc, .int .i64 r.made, .int .i64 r.about, .int .u8 r.kind, .int .i64 r.cents, .int .i64 r.of_] 47)
                have hR4 := Lib.hid (hRK.out.later hx4)
                have kr := Blk.new w3 #[.int .i64 r.id, .int .i64 r.src, .int .i64 r.acc, .int .i64 r.made, .int .i64 r.about, .int .u8 r.kind, .int .i64 r.cents, .int .i64 r.of_] 47
                have krl := kr.lt
                go_wp2_with (first
                  | (go_at_call 20; (with_reducible refine (HW1.out _ _ _ hR4.out).mono ?_); rintro e w5 ⟨rfl, h5⟩; have kr5 := kr.below h5 kr.lt; have kc5 := kr5.cell; have kf5 := kr5.free; have hz5 := h5.size; have hR5 := Lib.hid (hR4.out.later h5); have hb5 := hb4.trans (h5.mono hb4.size))
                  | (go_at_call 18; (with_reducible refine (HA3.out _ _ _ hR5.out).mono ?_); rintro e w6 ⟨rfl, rfl⟩))
                go_ret3
                exact ⟨by rw [HV.out.1, HV.out.2.1, HV.out.2.2]; rfl, hb5⟩
              | some s =>
                obtain ⟨k2, hk2, hx2, hks⟩ := ix_of hs
                have Hks := Lib.hid hks
                have HA3 := Lib.hid (fun A2 c2 W hh => hx2 ▸ HAt.out A2 c2 r.of_ W hh)
                have hkl2 : (k2 : Int) < (K.length : Int) := by omega
                have hk20 : decide ((0 : Int) ≤ (k2 : Int)) = true := decide_eq_true (by omega)
                have HW2 := Lib.hid (fun A2 c2 W hh => HWd.out A2 c2 r.of_ s W hh hs)
                have HC2 := Lib.hid (fun A2 c2 W hh => HCo.out A2 c2 r.of_ s W hh hs)
                by_cases hs7 : s.kind ≤ 7
                · have es7 : decide (s.kind ≤ 7) = true := decide_eq_true hs7
                  by_cases hwo : wdV K r.of_ < 0
                  · have ewo : decide (wdV K r.of_ < 0) = true := decide_eq_true hwo
                    obtain ⟨z, hz⟩ : ∃ z, ((corV K r.of_).map Rep.id).getD (-1) = z := ⟨_, rfl⟩
                    rw [hz] at HC2
                    have hid0 : 0 ≤ id := by have q := atR_some Hr.out; rw [← q.2]; exact (HK.out.id r q.1).1
                    by_cases hzi : z = id
                    · have ez : (z == id) = true := by simp [hzi]
                      have HV := Lib.hid (fate_some (f := 4) (b := -1) Hc.out Hd.out (by rw [HKe.out]; unfold fateV; rw [Hr.out]; dsimp only; rw [if_neg h9, if_neg hw, if_pos h8, hs]; dsimp only; rw [if_pos ⟨hs7, hwo, by cases hcv : corV K r.of_ with | none => rw [hcv] at hz; simp at hz; omega | some m => rw [hcv] at hz; simp at hz ⊢; omega⟩]))
                      clear h9 h8 hs hx2 hks hs7 hwo hz hzi
                      go_enter Tryd.func7, Tryd.ntmps7
                      go_upto_region 10 with (first
                        | (go_at_call 9; (with_reducible refine (HCk.out).mono ?_); rintro e w1 ⟨rfl, h1⟩)
                        | (go_at_call 14; (with_reducible refine (HWi.out _).mono ?_); rintro e w2 ⟨rfl, rfl⟩)
                        | (go_at_call 16; (with_reducible refine (HKn.out _ (h.later h1)).mono ?_); rintro e w3 ⟨v, rfl, hown, h3⟩; obtain ⟨A', c', rfl⟩ := own_slice hown; have hRK := Lib.hid (reps_own hown); have hb3 := h1.trans (h3.mono h1.size); clear hown)
                        | (go_at_call 18; (with_reducible refine (HA1.out _ _ _ hRK.out).mono ?_); rintro e w4 ⟨rfl, rfl⟩))
                      obtain ⟨b, off, rfl, hb, C⟩ := hRK.out.eight hk
                      rw [Hkr.out] at C
                      obtain ⟨c0, c1, c2', c3, c4, c5, c6, c7⟩ := C
                      have hb4 := hb3.alloc hb3.size (.cells #[.int .i64 r.id, .int .i64 r.src, .int .i64 r.acc, .int .i64 r.made, .int .i64 r.about, .int .u8 r.kind, .int .i64 r.cents, .int .i64 r.of_] 47)
                      have hx4 := (Below.refl w3.heap.size w3).alloc (Nat.le_refl _) (.cells #[.int .i64 r.id, .int .i64 r.src, .int .i64 r.acc, .int .i64 r.made, .int .i64 r.about, .int .u8 r.kind, .int .i64 r.cents, .int .i64 r.of_] 47)
                      have hR4 := Lib.hid (hRK.out.later hx4)
                      have kr := Blk.new w3 #[.int .i64 r.id, .int .i64 r.src, .int .i64 r.acc, .int .i64 r.made, .int .i64 r.about, .int .u8 r.kind, .int .i64 r.cents, .int .i64 r.of_] 47
                      have krl := kr.lt
                      go_wp2_with (first
                        | (go_at_call 20; (with_reducible refine (HW1.out _ _ _ hR4.out).mono ?_); rintro e w5 ⟨rfl, h5⟩; have kr5 := kr.below h5 kr.lt; have kc5 := kr5.cell; have kf5 := kr5.free; have hz5 := h5.size; have hR5 := Lib.hid (hR4.out.later h5); have hb5 := hb4.trans (h5.mono hb4.size))
                        | (go_at_call 18; (with_reducible refine (HA3.out _ _ _ hR5.out).mono ?_); rintro e w6 ⟨rfl, rfl⟩; obtain ⟨_, _, e5, hb9, C5⟩ := hR5.out.eight hk2; cases e5; rw [Hks.out] at C5; have s5 := C5.c5; clear C5)
                        | (go_at_call 20; (with_reducible refine (HW2.out _ _ _ hR5.out).mono ?_); rintro e w7 ⟨rfl, h7⟩; have kr7 := kr5.below h7 kr5.lt; have kc7 := kr7.cell; have kf7 := kr7.free; have hR7 := Lib.hid (hR5.out.later h7); have hb7 := hb5.trans (h7.mono hb5.size))
                        | (go_at_call 21; (with_reducible refine (HC2.out _ _ _ hR7.out).mono ?_); rintro e w8 ⟨rfl, h8x⟩; have hb8 := hb7.trans (h8x.mono hb7.size)))
                      go_ret3
                      exact ⟨by rw [HV.out.1, HV.out.2.1, HV.out.2.2]; rfl, hb8⟩
                    · have ez : (z == id) = false := by simpa using hzi
                      have HV := Lib.hid (fate_some (f := 3) (b := -1) Hc.out Hd.out (by rw [HKe.out]; unfold fateV; rw [Hr.out]; dsimp only; rw [if_neg h9, if_neg hw, if_pos h8, hs]; dsimp only; rw [if_neg (fun e => hzi (by rw [← hz, e.2.2]; rfl))]))
                      clear h9 h8 hs hx2 hks hs7 hwo hz hzi
                      go_enter Tryd.func7, Tryd.ntmps7
                      go_upto_region 10 with (first
                        | (go_at_call 9; (with_reducible refine (HCk.out).mono ?_); rintro e w1 ⟨rfl, h1⟩)
                        | (go_at_call 14; (with_reducible refine (HWi.out _).mono ?_); rintro e w2 ⟨rfl, rfl⟩)
                        | (go_at_call 16; (with_reducible refine (HKn.out _ (h.later h1)).mono ?_); rintro e w3 ⟨v, rfl, hown, h3⟩; obtain ⟨A', c', rfl⟩ := own_slice hown; have hRK := Lib.hid (reps_own hown); have hb3 := h1.trans (h3.mono h1.size); clear hown)
                        | (go_at_call 18; (with_reducible refine (HA1.out _ _ _ hRK.out).mono ?_); rintro e w4 ⟨rfl, rfl⟩))
                      obtain ⟨b, off, rfl, hb, C⟩ := hRK.out.eight hk
                      rw [Hkr.out] at C
                      obtain ⟨c0, c1, c2', c3, c4, c5, c6, c7⟩ := C
                      have hb4 := hb3.alloc hb3.size (.cells #[.int .i64 r.id, .int .i64 r.src, .int .i64 r.acc, .int .i64 r.made, .int .i64 r.about, .int .u8 r.kind, .int .i64 r.cents, .int .i64 r.of_] 47)
                      have hx4 := (Below.refl w3.heap.size w3).alloc (Nat.le_refl _) (.cells #[.int .i64 r.id, .int .i64 r.src, .int .i64 r.acc, .int .i64 r.made, .int .i64 r.about, .int .u8 r.kind, .int .i64 r.cents, .int .i64 r.of_] 47)
                      have hR4 := Lib.hid (hRK.out.later hx4)
                      have kr := Blk.new w3 #[.int .i64 r.id, .int .i64 r.src, .int .i64 r.acc, .int .i64 r.made, .int .i64 r.about, .int .u8 r.kind, .int .i64 r.cents, .int .i64 r.of_] 47
                      have krl := kr.lt
                      go_wp2_with (first
                        | (go_at_call 20; (with_reducible refine (HW1.out _ _ _ hR4.out).mono ?_); rintro e w5 ⟨rfl, h5⟩; have kr5 := kr.below h5 kr.lt; have kc5 := kr5.cell; have kf5 := kr5.free; have hz5 := h5.size; have hR5 := Lib.hid (hR4.out.later h5); have hb5 := hb4.trans (h5.mono hb4.size))
                        | (go_at_call 18; (with_reducible refine (HA3.out _ _ _ hR5.out).mono ?_); rintro e w6 ⟨rfl, rfl⟩; obtain ⟨_, _, e5, hb9, C5⟩ := hR5.out.eight hk2; cases e5; rw [Hks.out] at C5; have s5 := C5.c5; clear C5)
                        | (go_at_call 20; (with_reducible refine (HW2.out _ _ _ hR5.out).mono ?_); rintro e w7 ⟨rfl, h7⟩; have kr7 := kr5.below h7 kr5.lt; have kc7 := kr7.cell; have kf7 := kr7.free; have hR7 := Lib.hid (hR5.out.later h7); have hb7 := hb5.trans (h7.mono hb5.size))
                        | (go_at_call 21; (with_reducible refine (HC2.out _ _ _ hR7.out).mono ?_); rintro e w8 ⟨rfl, h8x⟩; have hb8 := hb7.trans (h8x.mono hb7.size)))
                      go_ret3
                      exact ⟨by rw [HV.out.1, HV.out.2.1, HV.out.2.2]; rfl, hb8⟩
                  · have ewo : decide (wdV K r.of_ < 0) = false := decide_eq_false hwo
                    have HV := Lib.hid (fate_some (f := 3) (b := -1) Hc.out Hd.out (by rw [HKe.out]; unfold fateV; rw [Hr.out]; dsimp only; rw [if_neg h9, if_neg hw, if_pos h8, hs]; dsimp only; rw [if_neg (fun e => hwo e.2.1)]))
                    clear h9 h8 hs hx2 hks hs7 hwo
                    go_enter Tryd.func7, Tryd.ntmps7
                    go_upto_region 10 with (first
                      | (go_at_call 9; (with_reducible refine (HCk.out).mono ?_); rintro e w1 ⟨rfl, h1⟩)
                      | (go_at_call 14; (with_reducible refine (HWi.out _).mono ?_); rintro e w2 ⟨rfl, rfl⟩)
                      | (go_at_call 16; (with_reducible refine (HKn.out _ (h.later h1)).mono ?_); rintro e w3 ⟨v, rfl, hown, h3⟩; obtain ⟨A', c', rfl⟩ := own_slice hown; have hRK := Lib.hid (reps_own hown); have hb3 := h1.trans (h3.mono h1.size); clear hown)
                      | (go_at_call 18; (with_reducible refine (HA1.out _ _ _ hRK.out).mono ?_); rintro e w4 ⟨rfl, rfl⟩))
                    obtain ⟨b, off, rfl, hb, C⟩ := hRK.out.eight hk
                    rw [Hkr.out] at C
                    obtain ⟨c0, c1, c2', c3, c4, c5, c6, c7⟩ := C
                    have hb4 := hb3.alloc hb3.size (.cells #[.int .i64 r.id, .int .i64 r.src, .int .i64 r.acc, .int .i64 r.made, .int .i64 r.about, .int .u8 r.kind, .int .i64 r.cents, .int .i64 r.of_] 47)
                    have hx4 := (Below.refl w3.heap.size w3).alloc (Nat.le_refl _) (.cells #[.int .i64 r.id, .int .i64 r.src, .int .i64 r.acc, .int .i64 r.made, .int .i64 r.about, .int .u8 r.kind, .int .i64 r.cents, .int .i64 r.of_] 47)
                    have hR4 := Lib.hid (hRK.out.later hx4)
                    have kr := Blk.new w3 #[.int .i64 r.id, .int .i64 r.src, .int .i64 r.acc, .int .i64 r.made, .int .i64 r.about, .int .u8 r.kind, .int .i64 r.cents, .int .i64 r.of_] 47
                    have krl := kr.lt
                    go_wp2_with (first
                      | (go_at_call 20; (with_reducible refine (HW1.out _ _ _ hR4.out).mono ?_); rintro e w5 ⟨rfl, h5⟩; have kr5 := kr.below h5 kr.lt; have kc5 := kr5.cell; have kf5 := kr5.free; have hz5 := h5.size; have hR5 := Lib.hid (hR4.out.later h5); have hb5 := hb4.trans (h5.mono hb4.size))
                      | (go_at_call 18; (with_reducible refine (HA3.out _ _ _ hR5.out).mono ?_); rintro e w6 ⟨rfl, rfl⟩; obtain ⟨_, _, e5, hb9, C5⟩ := hR5.out.eight hk2; cases e5; rw [Hks.out] at C5; have s5 := C5.c5; clear C5)
                      | (go_at_call 20; (with_reducible refine (HW2.out _ _ _ hR5.out).mono ?_); rintro e w7 ⟨rfl, h7⟩; have kr7 := kr5.below h7 kr5.lt; have kc7 := kr7.cell; have kf7 := kr7.free; have hR7 := Lib.hid (hR5.out.later h7); have hb7 := hb5.trans (h7.mono hb5.size)))
                    go_ret3
                    exact ⟨by rw [HV.out.1, HV.out.2.1, HV.out.2.2]; rfl, hb7⟩
                · have es7 : decide (s.kind ≤ 7) = false := decide_eq_false hs7
                  have HV := Lib.hid (fate_some (f := 3) (b := -1) Hc.out Hd.out (by rw [HKe.out]; unfold fateV; rw [Hr.out]; dsimp only; rw [if_neg h9, if_neg hw, if_pos h8, hs]; dsimp only; rw [if_neg (fun e => hs7 e.1)]))
                  clear h9 h8 hs hx2 hks hs7
                  go_enter Tryd.func7, Tryd.ntmps7
                  go_upto_region 10 with (first
                    | (go_at_call 9; (with_reducible refine (HCk.out).mono ?_); rintro e w1 ⟨rfl, h1⟩)
                    | (go_at_call 14; (with_reducible refine (HWi.out _).mono ?_); rintro e w2 ⟨rfl, rfl⟩)
                    | (go_at_call 16; (with_reducible refine (HKn.out _ (h.later h1)).mono ?_); rintro e w3 ⟨v, rfl, hown, h3⟩; obtain ⟨A', c', rfl⟩ := own_slice hown; have hRK := Lib.hid (reps_own hown); have hb3 := h1.trans (h3.mono h1.size); clear hown)
                    | (go_at_call 18; (with_reducible refine (HA1.out _ _ _ hRK.out).mono ?_); rintro e w4 ⟨rfl, rfl⟩))
                  obtain ⟨b, off, rfl, hb, C⟩ := hRK.out.eight hk
                  rw [Hkr.out] at C
                  obtain ⟨c0, c1, c2', c3, c4, c5, c6, c7⟩ := C
                  have hb4 := hb3.alloc hb3.size (.cells #[.int .i64 r.id, .int .i64 r.src, .int .i64 r.acc, .int .i64 r.made, .int .i64 r.about, .int .u8 r.kind, .int .i64 r.cents, .int .i64 r.of_] 47)
                  have hx4 := (Below.refl w3.heap.size w3).alloc (Nat.le_refl _) (.cells #[.int .i64 r.id, .int .i64 r.src, .int .i64 r.acc, .int .i64 r.made, .int .i64 r.about, .int .u8 r.kind, .int .i64 r.cents, .int .i64 r.of_] 47)
                  have hR4 := Lib.hid (hRK.out.later hx4)
                  have kr := Blk.new w3 #[.int .i64 r.id, .int .i64 r.src, .int .i64 r.acc, .int .i64 r.made, .int .i64 r.about, .int .u8 r.kind, .int .i64 r.cents, .int .i64 r.of_] 47
                  have krl := kr.lt
                  go_wp2_with (first
                    | (go_at_call 20; (with_reducible refine (HW1.out _ _ _ hR4.out).mono ?_); rintro e w5 ⟨rfl, h5⟩; have kr5 := kr.below h5 kr.lt; have kc5 := kr5.cell; have kf5 := kr5.free; have hz5 := h5.size; have hR5 := Lib.hid (hR4.out.later h5); have hb5 := hb4.trans (h5.mono hb4.size))
                    | (go_at_call 18; (with_reducible refine (HA3.out _ _ _ hR5.out).mono ?_); rintro e w6 ⟨rfl, rfl⟩; obtain ⟨_, _, e5, hb9, C5⟩ := hR5.out.eight hk2; cases e5; rw [Hks.out] at C5; have s5 := C5.c5; clear C5))
                  go_ret3
                  exact ⟨by rw [HV.out.1, HV.out.2.1, HV.out.2.2]; rfl, hb5⟩
            · have e8 : (r.kind == 8) = false := by simpa using h8
              have HC1 := Lib.hid (fun A2 c2 W hh => HCo.out A2 c2 id r W hh Hr.out)
              cases hcv : corV K id with
              | none =>
                rw [hcv] at HC1
                simp only [Option.map_none, Option.getD_none] at HC1
                have HV := Lib.hid (fate_some (f := 0) (b := -1) Hc.out Hd.out (by rw [HKe.out]; unfold fateV; rw [Hr.out]; dsimp only; rw [if_neg h9, if_neg hw, if_neg h8, hcv]))
                clear h9 h8 hcv
                go_enter Tryd.func7, Tryd.ntmps7
                go_upto_region 10 with (first
                  | (go_at_call 9; (with_reducible refine (HCk.out).mono ?_); rintro e w1 ⟨rfl, h1⟩)
                  | (go_at_call 14; (with_reducible refine (HWi.out _).mono ?_); rintro e w2 ⟨rfl, rfl⟩)
                  | (go_at_call 16; (with_reducible refine (HKn.out _ (h.later h1)).mono ?_); rintro e w3 ⟨v, rfl, hown, h3⟩; obtain ⟨A', c', rfl⟩ := own_slice hown; have hRK := Lib.hid (reps_own hown); have hb3 := h1.trans (h3.mono h1.size); clear hown)
                  | (go_at_call 18; (with_reducible refine (HA1.out _ _ _ hRK.out).mono ?_); rintro e w4 ⟨rfl, rfl⟩))
                obtain ⟨b, off, rfl, hb, C⟩ := hRK.out.eight hk
                rw [Hkr.out] at C
                obtain ⟨c0, c1, c2', c3, c4, c5, c6, c7⟩ := C
                have hb4 := hb3.alloc hb3.size (.cells #[.int .i64 r.id, .int .i64 r.src, .int .i64 r.acc, .int .i64 r.made, .int .i64 r.about, .int .u8 r.kind, .int .i64 r.cents, .int .i64 r.of_] 47)
                have hx4 := (Below.refl w3.heap.size w3).alloc (Nat.le_refl _) (.cells #[.int .i64 r.id, .int .i64 r.src, .int .i64 r.acc, .int .i64 r.made, .int .i64 r.about, .int .u8 r.kind, .int .i64 r.cents, .int .i64 r.of_] 47)
                have hR4 := Lib.hid (hRK.out.later hx4)
                have kr := Blk.new w3 #[.int .i64 r.id, .int .i64 r.src, .int .i64 r.acc, .int .i64 r.made, .int .i64 r.about, .int .u8 r.kind, .int .i64 r.cents, .int .i64 r.of_] 47
                have krl := kr.lt
                go_wp2_with (first
                  | (go_at_call 20; (with_reducible refine (HW1.out _ _ _ hR4.out).mono ?_); rintro e w5 ⟨rfl, h5⟩; have kr5 := kr.below h5 kr.lt; have kc5 := kr5.cell; have kf5 := kr5.free; have hz5 := h5.size; have hR5 := Lib.hid (hR4.out.later h5); have hb5 := hb4.trans (h5.mono hb4.size))
                  | (go_at_call 21; (with_reducible refine (HC1.out _ _ _ hR5.out).mono ?_); rintro e w6 ⟨rfl, h6⟩; have hb6 := hb5.trans (h6.mono hb5.size)))
                go_ret3
                exact ⟨by rw [HV.out.1, HV.out.2.1, HV.out.2.2]; rfl, hb6⟩
              | some m =>
                rw [hcv] at HC1
                simp only [Option.map_some, Option.getD_some] at HC1
                have hm0 := (HK.out.id m (corV_some hcv).1).1
                have em : decide (0 ≤ m.id) = true := decide_eq_true hm0
                have HV := Lib.hid (fate_some (f := 1) (b := m.id) Hc.out Hd.out (by rw [HKe.out]; unfold fateV; rw [Hr.out]; dsimp only; rw [if_neg h9, if_neg hw, if_neg h8, hcv]))
                clear h9 h8 hcv
                go_enter Tryd.func7, Tryd.ntmps7
                go_upto_region 10 with (first
                  | (go_at_call 9; (with_reducible refine (HCk.out).mono ?_); rintro e w1 ⟨rfl, h1⟩)
                  | (go_at_call 14; (with_reducible refine (HWi.out _).mono ?_); rintro e w2 ⟨rfl, rfl⟩)
                  | (go_at_call 16; (with_reducible refine (HKn.out _ (h.later h1)).mono ?_); rintro e w3 ⟨v, rfl, hown, h3⟩; obtain ⟨A', c', rfl⟩ := own_slice hown; have hRK := Lib.hid (reps_own hown); have hb3 := h1.trans (h3.mono h1.size); clear hown)
                  | (go_at_call 18; (with_reducible refine (HA1.out _ _ _ hRK.out).mono ?_); rintro e w4 ⟨rfl, rfl⟩))
                obtain ⟨b, off, rfl, hb, C⟩ := hRK.out.eight hk
                rw [Hkr.out] at C
                obtain ⟨c0, c1, c2', c3, c4, c5, c6, c7⟩ := C
                have hb4 := hb3.alloc hb3.size (.cells #[.int .i64 r.id, .int .i64 r.src, .int .i64 r.acc, .int .i64 r.made, .int .i64 r.about, .int .u8 r.kind, .int .i64 r.cents, .int .i64 r.of_] 47)
                have hx4 := (Below.refl w3.heap.size w3).alloc (Nat.le_refl _) (.cells #[.int .i64 r.id, .int .i64 r.src, .int .i64 r.acc, .int .i64 r.made, .int .i64 r.about, .int .u8 r.kind, .int .i64 r.cents, .int .i64 r.of_] 47)
                have hR4 := Lib.hid (hRK.out.later hx4)
                have kr := Blk.new w3 #[.int .i64 r.id, .int .i64 r.src, .int .i64 r.acc, .int .i64 r.made, .int .i64 r.about, .int .u8 r.kind, .int .i64 r.cents, .int .i64 r.of_] 47
                have krl := kr.lt
                go_wp2_with (first
                  | (go_at_call 20; (with_reducible refine (HW1.out _ _ _ hR4.out).mono ?_); rintro e w5 ⟨rfl, h5⟩; have kr5 := kr.below h5 kr.lt; have kc5 := kr5.cell; have kf5 := kr5.free; have hz5 := h5.size; have hR5 := Lib.hid (hR4.out.later h5); have hb5 := hb4.trans (h5.mono hb4.size))
                  | (go_at_call 21; (with_reducible refine (HC1.out _ _ _ hR5.out).mono ?_); rintro e w6 ⟨rfl, h6⟩; have hb6 := hb5.trans (h6.mono hb5.size)))
                go_ret3
                exact ⟨by rw [HV.out.1, HV.out.2.1, HV.out.2.2]; rfl, hb6⟩
  · have hc0 : (checkV l != 0) = true := by simpa using hc
    have HV := Lib.hid (fate_bad id d hc)
    clear hc
    go_enter Tryd.func7, Tryd.ntmps7
    go_wp2_with (go_at_call 9; (with_reducible refine (HCk.out).mono ?_); rintro e w1 ⟨rfl, h1⟩)
    go_ret3
    exact ⟨by rw [HV.out.1, HV.out.2.1, HV.out.2.2]; rfl, h1⟩

end Go.Proofs.YtliijiflbfgfaaaDoor
