/- The law on the pairs of a list, in any order: so far only where it ends early. -/
import Derived.Test.YtbkmfomdhjhkpaaGreatPairsPre
import Derived.Test.YtbkmfomdhjhkpaaGreatAliveAll
namespace Go.Proofs.YtbkmfomdhjhkpaaGreat
open Go.ChangeShapes Go.WideShapes Go.ChangeAt Go.RowKit Go.Deep Go.Maps

set_option maxRecDepth 100000 in
set_option maxHeartbeats 4000000 in
/-- A great list, rules or a list that are refused, or no record: true at once. -/
theorem matchPairs_early (u : Rul) (l : List RD) (A : Option Addr) (c : Nat) (seed : Int) (w : World) (h : Recs w w.heap.size A l) (hl : l.length ≤ maxLen) (he : greatL l = true ∨ rulesB u.l u.d u.y u.t = false ∨ recsE (l.map RD.r) ≠ 0 ∨ l = []) :
    Calls Tryz.prog 8 #[.agg #[.int .i64 u.l, .int .i64 u.d, .int .i64 u.y, .int .i64 u.t], .slice A l.length c, .int .u8 seed] w fun e w' => e = .returned (.bool true) ∧ Below w.heap.size w w' := by
  have b0 := (Below.refl w.heap.size w).alloc (Nat.le_refl _) (.cells #[.int .i64 u.l, .int .i64 u.d, .int .i64 u.y, .int .i64 u.t] 23)
  have k0 := Blk.new w #[.int .i64 u.l, .int .i64 u.d, .int .i64 u.y, .int .i64 u.t] 23
  have Hl := h.later b0
  have HQ := Lib.hid (fun W => alive_any W)
  have HG := Lib.hid (fun W hh => great_any l A c W hh hl)
  have HU := Lib.hid (fun W => refRules_below u.l u.d u.y u.t W)
  have HL := Lib.hid (fun W hh => listE_eq l ▸ refRecords_any l A c W hh hl)
  cases hg : greatL l with
  | true =>
    rw [hg] at HG
    as_aux_lemma =>
    go_enter Tryz.func8, Tryz.ntmps8
    go_wp2_with (first
      | (go_at_call 19; (with_reducible refine (HQ.out _).mono ?_); rintro e w1 ⟨rfl, h1⟩; have b1 := b0.trans (h1.mono b0.size); have Hl1 := h.later b1)
      | (go_at_call 10; (with_reducible refine (HG.out _ Hl1).mono ?_); rintro e w2 ⟨rfl, h2⟩))
    go_ret
    exact ⟨rfl, b1.trans (h2.mono b1.size)⟩
  | false =>
    rw [hg] at HG
    cases hR : rulesB u.l u.d u.y u.t with
    | false =>
      rw [hR] at HU
      as_aux_lemma =>
      go_enter Tryz.func8, Tryz.ntmps8
      go_wp2_with (first
        | (go_at_call 19; (with_reducible refine (HQ.out _).mono ?_); rintro e w1 ⟨rfl, h1⟩; have b1 := b0.trans (h1.mono b0.size); have Hl1 := h.later b1; have k1 := k0.below h1 k0.lt)
        | (go_at_call 10; (with_reducible refine (HG.out _ Hl1).mono ?_); rintro e w2 ⟨rfl, h2⟩; have b2 := b1.trans (h2.mono b1.size); have c2 := (k1.below h2 k1.lt).cell)
        | (go_at_call 20; (with_reducible refine (HU.out _).mono ?_); rintro e w3 ⟨rfl, h3⟩))
      go_ret
      exact ⟨rfl, b2.trans (h3.mono b2.size)⟩
    | true =>
      rw [hR] at HU
      by_cases hz : recsE (l.map RD.r) = 0
      · have hl0 : l.length = 0 := by
          rcases he with e | e | e | e
          · rw [hg] at e; cases e
          · rw [hR] at e; cases e
          · exact absurd hz e
          · rw [e]; rfl
        have hli : ((l.length : Int) == 0) = true := by rw [hl0]; rfl
        rw [hz] at HL
        clear hz he hl0
        as_aux_lemma =>
        go_enter Tryz.func8, Tryz.ntmps8
        go_wp2_with (first
          | (go_at_call 19; (with_reducible refine (HQ.out _).mono ?_); rintro e w1 ⟨rfl, h1⟩; have b1 := b0.trans (h1.mono b0.size); have Hl1 := h.later b1; have k1 := k0.below h1 k0.lt)
          | (go_at_call 10; (with_reducible refine (HG.out _ Hl1).mono ?_); rintro e w2 ⟨rfl, h2⟩; have b2 := b1.trans (h2.mono b1.size); have k2 := k1.below h2 k1.lt; have c2 := k2.cell)
          | (go_at_call 20; (with_reducible refine (HU.out _).mono ?_); rintro e w3 ⟨rfl, h3⟩; have b3 := b2.trans (h3.mono b2.size); have Hl3 := h.later b3)
          | (go_at_call 27; (with_reducible refine (HL.out _ Hl3).mono ?_); rintro e w4 ⟨rfl, h4⟩))
        go_ret
        exact ⟨rfl, b3.trans (h4.mono b3.size)⟩
      · have hne : (recsE (l.map RD.r) != 0) = true := by simpa using hz
        as_aux_lemma =>
        go_enter Tryz.func8, Tryz.ntmps8
        go_wp2_with (first
          | (go_at_call 19; (with_reducible refine (HQ.out _).mono ?_); rintro e w1 ⟨rfl, h1⟩; have b1 := b0.trans (h1.mono b0.size); have Hl1 := h.later b1; have k1 := k0.below h1 k0.lt)
          | (go_at_call 10; (with_reducible refine (HG.out _ Hl1).mono ?_); rintro e w2 ⟨rfl, h2⟩; have b2 := b1.trans (h2.mono b1.size); have k2 := k1.below h2 k1.lt; have c2 := k2.cell)
          | (go_at_call 20; (with_reducible refine (HU.out _).mono ?_); rintro e w3 ⟨rfl, h3⟩; have b3 := b2.trans (h3.mono b2.size); have Hl3 := h.later b3)
          | (go_at_call 27; (with_reducible refine (HL.out _ Hl3).mono ?_); rintro e w4 ⟨rfl, h4⟩))
        go_ret
        exact ⟨rfl, b3.trans (h4.mono b3.size)⟩

end Go.Proofs.YtbkmfomdhjhkpaaGreat
