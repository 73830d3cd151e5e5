/- What became of a report, by the program. Written by genftp.py. -/
import Derived.Test.YtliijiflbfgfaaaDoorAStP

namespace Go.Proofs.YtliijiflbfgfaaaDoor
open Go.RowKit Go.Maps

theorem left_none {K : List Rep} (hn : (K.map Rep.id).Nodup) {id : Int} (h : atR K id = none) : atR (leftL K) id = none := by
  cases hs : atR (leftL K) id with
  | none => rfl
  | some s => rw [(atR_left hn hs).1] at h; cases h
def fateT (x : Option (Int × Int)) : Int × Int × Int := match x with
  | none => (0, 0, 6)
  | some y => (y.1, y.2, 0)

set_option maxRecDepth 100000 in
set_option maxHeartbeats 4000000 in
theorem fateP_any (m0 m1 m2 m3 n : Nat) (K : List Rep) (id : Int) (w : World) (hKN : KN w m0 m1 m2 m3 n (repF (leftL K)) (wdMV K) (coMV K) (wkA K)) (hK : KnOk K) (hid : (Lit.int .i64 id).wf = true) :
    Calls Tryd.prog 17 #[knowV m0 m1 m2 m3, .int .i64 id] w fun e w' => e = .returned (.tuple #[.int .u8 (fateT (fateP K id)).1, .int .i64 (fateT (fateP K id)).2.1, .int .i64 (fateT (fateP K id)).2.2]) ∧ Below w.heap.size w w' := by
  have kb := Blk.new w #[.map (some m0), .map (some m1), .map (some m2), .map (some m3)] 42
  have hKN1 := hKN.alloc (.cells #[.map (some m0), .map (some m1), .map (some m2), .map (some m3)] 42)
  have hb1 := (Below.refl w.heap.size w).alloc (Nat.le_refl _) (.cells #[.map (some m0), .map (some m1), .map (some m2), .map (some m3)] 42)
  have hsz : (w.alloc (.cells #[.map (some m0), .map (some m1), .map (some m2), .map (some m3)] 42)).heap.size = w.heap.size + 1 := by simp
  have look1 := (hKN1.r1).lookOk (int_keyed Tryd.underlying3) Tryd.underlying39 (zeroInt _) (keyOf_int_mk Tryd.underlying3 hid)
  rw [intG_at] at look1
  have kc := kb.cell
  have kl := kb.lt
  by_cases hw : 0 ≤ wdV K id
  · have hl : wdMV K id = some (.int .i64 (wdV K id)) := by unfold wdMV; rw [if_pos hw]
    rw [hl] at look1
    simp only [Option.getD_some, Option.isSome_some] at look1
    have HV : Hid (fateT (fateP K id) = (2, wdV K id, 0)) := Lib.hid (by unfold fateP; rw [if_pos hw]; rfl)
    clear hl hw hKN hKN1 hK
    go_enter Tryd.func17, Tryd.ntmps17
    go_wp2_with fail
    go_ret3
    exact ⟨by rw [HV.out]; rfl, hb1⟩
  · have hl : wdMV K id = none := by unfold wdMV; rw [if_neg hw]
    rw [hl] at look1
    simp only [Option.getD_none, Option.isSome_none] at look1
    have look0 := (hKN1.r0).lookOk (int_keyed Tryd.underlying3) Tryd.underlying36 (repZero _) (keyOf_int_mk Tryd.underlying3 hid)
    rw [intG_at] at look0
    cases hr : atR K id with
    | none =>
      have h0 : repF (leftL K) id = none := by unfold repF; rw [left_none hK.nodup hr]; rfl
      rw [h0] at look0
      simp only [Option.getD_none, Option.isSome_none] at look0
      have HV : Hid (fateT (fateP K id) = (0, 0, 6)) := Lib.hid (by unfold fateP; rw [if_neg hw, hr]; rfl)
      clear hl hw hKN hKN1 hK hr h0
      go_enter Tryd.func17, Tryd.ntmps17
      go_wp2_with fail
      go_ret3
      exact ⟨by rw [HV.out]; rfl, hb1.alloc (by simp) _⟩
    | some r =>
      have hrl := left_atR hK.nodup hr (by omega)
      have h0 : repF (leftL K) id = some (.agg #[.int .i64 r.id, .int .i64 r.src, .int .i64 r.acc, .int .i64 r.made, .int .i64 r.about, .int .u8 r.kind, .int .i64 r.cents, .int .i64 r.of_]) := by unfold repF; rw [hrl]; rfl
      rw [h0] at look0
      simp only [Option.getD_some, Option.isSome_some] at look0
      have hKN2 := hKN1.alloc (.cells #[.int .i64 r.id, .int .i64 r.src, .int .i64 r.acc, .int .i64 r.made, .int .i64 r.about, .int .u8 r.kind, .int .i64 r.cents, .int .i64 r.of_] 47)
      have k9 := Blk.new (w.alloc (.cells #[.map (some m0), .map (some m1), .map (some m2), .map (some m3)] 42)) #[.int .i64 r.id, .int .i64 r.src, .int .i64 r.acc, .int .i64 r.made, .int .i64 r.about, .int .u8 r.kind, .int .i64 r.cents, .int .i64 r.of_] 47
      simp only [World.size_alloc] at k9
      have look2 := (hKN2.r2).lookOk (int_keyed Tryd.underlying3) Tryd.underlying36 (repZero _) (keyOf_int_mk Tryd.underlying3 hid)
      rw [intG_at] at look2
      have hb2 := hb1.alloc (by simp) (.cells #[.int .i64 r.id, .int .i64 r.src, .int .i64 r.acc, .int .i64 r.made, .int .i64 r.about, .int .u8 r.kind, .int .i64 r.cents, .int .i64 r.of_] 47)
      cases hc : corK K id with
      | some c =>
        have h2 : coMV K id = some (.agg #[.int .i64 c.id, .int .i64 c.src, .int .i64 c.acc, .int .i64 c.made, .int .i64 c.about, .int .u8 c.kind, .int .i64 c.cents, .int .i64 c.of_]) := by unfold coMV; rw [hc]; rfl
        rw [h2] at look2
        simp only [Option.getD_some, Option.isSome_some] at look2
        have HV : Hid (fateT (fateP K id) = (1, c.id, 0)) := Lib.hid (by unfold fateP; rw [if_neg hw, hr]; dsimp only; rw [hc]; rfl)
        have k11 := (Blk.new ((w.alloc (.cells #[.map (some m0), .map (some m1), .map (some m2), .map (some m3)] 42)).alloc (.cells #[.int .i64 r.id, .int .i64 r.src, .int .i64 r.acc, .int .i64 r.made, .int .i64 r.about, .int .u8 r.kind, .int .i64 r.cents, .int .i64 r.of_] 47)) #[.int .i64 c.id, .int .i64 c.src, .int .i64 c.acc, .int .i64 c.made, .int .i64 c.about, .int .u8 c.kind, .int .i64 c.cents, .int .i64 c.of_] 47).cell
        simp only [World.size_alloc] at k11
        have hb3 := hb2.alloc (by simp; omega) (.cells #[.int .i64 c.id, .int .i64 c.src, .int .i64 c.acc, .int .i64 c.made, .int .i64 c.about, .int .u8 c.kind, .int .i64 c.cents, .int .i64 c.of_] 47)
        clear hl hw hKN hKN1 hKN2 hK hr h0 h2 hc hrl
        go_enter Tryd.func17, Tryd.ntmps17
        go_upto_region 9 with fail
        go_quiet (fail)
        go_wp2_with fail
        go_ret3
        exact ⟨by rw [HV.out]; rfl, below_drewN hb3 _⟩
      | none =>
        have h2 : coMV K id = none := by unfold coMV; rw [hc]; rfl
        rw [h2] at look2
        simp only [Option.getD_none, Option.isSome_none] at look2
        have hKN3 := hKN2.alloc (.cells #[.int .i64 0, .int .i64 0, .int .i64 0, .int .i64 0, .int .i64 0, .int .u8 0, .int .i64 0, .int .i64 0] 47)
        have hb3 := hb2.alloc (by simp; omega) (.cells #[.int .i64 0, .int .i64 0, .int .i64 0, .int .i64 0, .int .i64 0, .int .u8 0, .int .i64 0, .int .i64 0] 47)
        have HF := Lib.hid (fun W => isFact_any r W)
        have k9c := (k9.alloc (.cells #[.int .i64 0, .int .i64 0, .int .i64 0, .int .i64 0, .int .i64 0, .int .u8 0, .int .i64 0, .int .i64 0] 47)).cell
        have Hk9 := Lib.hid (k9.alloc (.cells #[.int .i64 0, .int .i64 0, .int .i64 0, .int .i64 0, .int .i64 0, .int .u8 0, .int .i64 0, .int .i64 0] 47))
        have Hkb := Lib.hid ((kb.alloc (.cells #[.int .i64 r.id, .int .i64 r.src, .int .i64 r.acc, .int .i64 r.made, .int .i64 r.about, .int .u8 r.kind, .int .i64 r.cents, .int .i64 r.of_] 47)).alloc (.cells #[.int .i64 0, .int .i64 0, .int .i64 0, .int .i64 0, .int .i64 0, .int .u8 0, .int .i64 0, .int .i64 0] 47))
        by_cases h7 : r.kind ≤ 7
        · have e7 : decide (r.kind ≤ 7) = true := decide_eq_true h7
          have HV : Hid (fateT (fateP K id) = (0, -1, 0)) := Lib.hid (by unfold fateP; rw [if_neg hw, hr]; dsimp only; rw [hc]; dsimp only; rw [if_pos h7]; rfl)
          clear hl hw hKN hKN1 hKN2 hKN3 hK hr h0 h2 hc h7 hrl
          go_enter Tryd.func17, Tryd.ntmps17
          go_wp2_with (go_at_call 30; (with_reducible refine (HF.out _).mono ?_); rintro e w5 ⟨rfl, h5⟩)
          go_ret3
          exact ⟨by rw [HV.out]; rfl, hb3.trans (h5.mono hb3.size)⟩
        · have e7 : decide (r.kind ≤ 7) = false := decide_eq_false h7
          have HK3 := Lib.hid hKN3
          cases hwb : worksB K id with
          | true =>
            have h3 : wkA K id = some (.bool true) := by unfold wkA; rw [if_pos hwb]
            have HV : Hid (fateT (fateP K id) = (4, -1, 0)) := Lib.hid (by unfold fateP; rw [if_neg hw, hr]; dsimp only; rw [hc]; dsimp only; rw [if_neg h7, if_pos hwb]; rfl)
            have H3 := Lib.hid h3
            clear hl hw hKN hKN1 hKN2 hKN3 hK hr h0 h2 hc h7 hwb h3 hrl
            go_enter Tryd.func17, Tryd.ntmps17
            go_wp2_with (go_at_call 30; (with_reducible refine (HF.out _).mono ?_); rintro e w5 ⟨rfl, h5⟩; have kb5 := (Hkb.out.below h5 Hkb.out.lt).cell; have look3 := ((HK3.out.later h5).r3).look (int_keyed Tryd.underlying3) Tryd.underlying40 (zeroBool _) (keyOf_int_mk Tryd.underlying3 hid); rw [intG_at, H3.out] at look3; simp only [Option.getD_some] at look3)
            go_ret3
            exact ⟨by rw [HV.out]; rfl, hb3.trans (h5.mono hb3.size)⟩
          | false =>
            have h3 : wkA K id = none := by unfold wkA; rw [if_neg (by rw [hwb]; simp)]
            have HV : Hid (fateT (fateP K id) = (3, -1, 0)) := Lib.hid (by unfold fateP; rw [if_neg hw, hr]; dsimp only; rw [hc]; dsimp only; rw [if_neg h7, if_neg (by rw [hwb]; simp)]; rfl)
            have H3 := Lib.hid h3
            clear hl hw hKN hKN1 hKN2 hKN3 hK hr h0 h2 hc h7 hwb h3 hrl
            go_enter Tryd.func17, Tryd.ntmps17
            go_wp2_with (go_at_call 30; (with_reducible refine (HF.out _).mono ?_); rintro e w5 ⟨rfl, h5⟩; have kb5 := (Hkb.out.below h5 Hkb.out.lt).cell; have look3 := ((HK3.out.later h5).r3).look (int_keyed Tryd.underlying3) Tryd.underlying40 (zeroBool _) (keyOf_int_mk Tryd.underlying3 hid); rw [intG_at, H3.out] at look3; simp only [Option.getD_none] at look3)
            go_ret3
            exact ⟨by rw [HV.out]; rfl, hb3.trans (h5.mono hb3.size)⟩

end Go.Proofs.YtliijiflbfgfaaaDoor
