/- The chapter's examples that each statement asks for hold. -/
import Derived.Test.YtofckokjeiaphaaGreatAliveV
import Derived.Test.YtofckokjeiaphaaGreatChecks
import Derived.Test.YtofckokjeiaphaaGreatEdw
namespace Go.Proofs.YtofckokjeiaphaaGreat
open Go.RowKit

theorem compC {x1 x2 : RD} {M : Mat} (W : World) (hM : cmpM rulC x1.r x2.r = M ∧ cmpE rulC x1.r x2.r = 0) (s1 : 0 ≤ x1.r.suf) (s2 : 0 ≤ x2.r.suf) (h1 : RecAt W W.heap.size x1.A x1.D x1.r) (h2 : RecAt W W.heap.size x2.A x2.D x2.r) (n1 : x1.r.names.length ≤ x1.c) (n2 : x2.r.names.length ≤ x2.c) :
    Calls Tryz.prog 23 #[.agg #[.int .i64 2, .int .i64 1, .int .i64 30, .int .i64 10], .agg #[.int .i64 x1.r.id, .slice x1.A x1.r.names.length x1.c, .int .u8 x1.r.suf, .int .i64 x1.r.lo, .int .i64 x1.r.hi, .string x1.r.num, .bool x1.r.twin, .slice x1.D x1.r.stays.length x1.d], .agg #[.int .i64 x2.r.id, .slice x2.A x2.r.names.length x2.c, .int .u8 x2.r.suf, .int .i64 x2.r.lo, .int .i64 x2.r.hi, .string x2.r.num, .bool x2.r.twin, .slice x2.D x2.r.stays.length x2.d]] W fun e w' => e = .returned (.tuple #[.agg #[.int .u8 M.names, .int .u8 M.num, .int .u8 M.born, .int .u8 M.place, .int .u8 M.one], .int .i64 0]) ∧ Below W.heap.size W w' := by
  have h := compare_any rulC x1.r x2.r x1.A x2.A x1.D x2.D x1.c x2.c x1.d x2.d W s1 s2 h1 h2 n1 n2
  rw [hM.1, hM.2] at h
  exact h
theorem pairsC {x1 x2 x3 : RD} (W : World) (g : Nat) (h : Recs W W.heap.size (some ⟨g, 0, none⟩) [x1, x2, x3]) (e1 : x1.r = recC1) (e2 : x2.r = recC2) (e3 : x3.r = recC3) :
    Calls Tryz.prog 12 #[.agg #[.int .i64 2, .int .i64 1, .int .i64 30, .int .i64 10], .slice (some ⟨g, 0, none⟩) 3 5] W fun e w' => ∃ A4 c4 A5 c5, e = .returned (.tuple #[.slice A4 1 c4, .slice A5 2 c5, .int .i64 0]) ∧ Hid (Prs w' w'.heap.size A4 [(1, 3)] ∧ Prs w' w'.heap.size A5 [(1, 2), (2, 3)]) ∧ Below W.heap.size W w' := by
  have hl : [x1, x2, x3].map RD.r = [recC1, recC2, recC3] := by simp [e1, e2, e3]
  have hp := pairs_any rulC [x1, x2, x3] (some ⟨g, 0, none⟩) 5 W h (by simp [maxLen]) (by rw [hl]; decide +kernel)
  rw [hl, pairC.1, pairC.2.1, pairC.2.2] at hp
  refine hp.mono ?_
  rintro e w' ⟨v4, v5, rfl, o4, o5, hb⟩
  obtain ⟨A4, c4, rfl⟩ := own_slice o4
  obtain ⟨A5, c5, rfl⟩ := own_slice o5
  exact ⟨A4, c4, A5, c5, rfl, Lib.hid ⟨Prs.of_own o4, Prs.of_own o5⟩, hb⟩
theorem homesC {x1 x2 x3 x4 x5 : RD} (W : World) (g : Nat) (h : Recs W W.heap.size (some ⟨g, 0, none⟩) [x1, x2, x3, x4, x5]) (hw : WhoC x1 x2 x3 x4 x5) :
    Calls Tryz.prog 14 #[.slice (some ⟨g, 0, none⟩) 5 5, .int .i64 185] W fun e w' => ∃ A c, e = .returned (.tuple #[.slice A 1 c, .int .i64 0]) ∧ Hid (Lists w' w'.heap.size A [[1, 2, 3, 4]]) ∧ Below W.heap.size W w' := by
  have hl : [x1, x2, x3, x4, x5].map RD.r = peopleC := by simp [hw.e1, hw.e2, hw.e3, hw.e4, hw.e5, peopleC]
  have hp := homes_any 185 [x1, x2, x3, x4, x5] (some ⟨g, 0, none⟩) 5 W h (by simp [maxLen])
  rw [hl, homeC.1, homeC.2] at hp
  refine hp.mono ?_
  rintro e w' ⟨A, c, rfl, hL, hb⟩
  exact ⟨A, c, rfl, Lib.hid hL, hb⟩
theorem editsC (W : World) : Calls Tryz.prog 25 #[.string { data := #[83, 77, 73, 84, 72] }, .string { data := #[83, 77, 89, 84, 72, 69] }] W fun e w' => e = .returned (.tuple #[.int .i64 2, .int .i64 0]) ∧ Below W.heap.size W w' := by
  have h := edits2_any wSMITH { data := #[83, 77, 89, 84, 72, 69] } W
  rw [edC.1, edC.2] at h
  exact h
theorem sameC1 {V : World} {A : Option Addr} (c : Nat) (h : Prs V V.heap.size A [(1, 3)]) (W : World) (hb : Below V.heap.size V W) :
    Calls Tryz.prog 16 #[.slice A 1 c, .slice (some ⟨W.heap.size, 0, none⟩) 1 1] (W.alloc (.cells #[.int .i64 1, .int .i64 3] 71)) fun e w' => e = .returned (.bool true) ∧ Below W.heap.size W w' := by
  have b0 := (Below.refl W.heap.size W).alloc (Nat.le_refl _) (.cells #[.int .i64 1, .int .i64 3] 71)
  have kn := Blk.new W #[.int .i64 1, .int .i64 3] 71
  have hn : Prs (W.alloc (.cells #[.int .i64 1, .int .i64 3] 71)) (W.alloc (.cells #[.int .i64 1, .int .i64 3] 71)).heap.size (some ⟨W.heap.size, 0, none⟩) [(1, 3)] := fun k hk => by
    match k, hk with
    | 0, _ => exact ⟨_, _, rfl, kn.lt, kn.cell 0, kn.cell 1⟩
  exact (samePairs_any [(1, 3)] A _ c 1 _ ((h.later hb).later b0) hn (by decide)).mono fun e w' ⟨h1, h2⟩ => ⟨h1, b0.trans (h2.mono b0.size)⟩
theorem sameC2 {V : World} {A : Option Addr} (c : Nat) (h : Prs V V.heap.size A [(1, 2), (2, 3)]) (W : World) (hb : Below V.heap.size V W) :
    Calls Tryz.prog 16 #[.slice A 2 c, .slice (some ⟨W.heap.size, 0, none⟩) 2 2] (W.alloc (.cells #[.int .i64 1, .int .i64 2, .int .i64 2, .int .i64 3] 71)) fun e w' => e = .returned (.bool true) ∧ Below W.heap.size W w' := by
  have b0 := (Below.refl W.heap.size W).alloc (Nat.le_refl _) (.cells #[.int .i64 1, .int .i64 2, .int .i64 2, .int .i64 3] 71)
  have kn := Blk.new W #[.int .i64 1, .int .i64 2, .int .i64 2, .int .i64 3] 71
  have hn : Prs (W.alloc (.cells #[.int .i64 1, .int .i64 2, .int .i64 2, .int .i64 3] 71)) (W.alloc (.cells #[.int .i64 1, .int .i64 2, .int .i64 2, .int .i64 3] 71)).heap.size (some ⟨W.heap.size, 0, none⟩) [(1, 2), (2, 3)] := fun k hk => by
    match k, hk with
    | 0, _ => exact ⟨_, _, rfl, kn.lt, kn.cell 0, kn.cell 1⟩
    | 1, _ => exact ⟨_, _, rfl, kn.lt, kn.cell 2, kn.cell 3⟩
  exact (samePairs_any [(1, 2), (2, 3)] A _ c 2 _ ((h.later hb).later b0) hn (by decide)).mono fun e w' ⟨h1, h2⟩ => ⟨h1, b0.trans (h2.mono b0.size)⟩
theorem sameC3 {V : World} {A : Option Addr} (c : Nat) (h : Lists V V.heap.size A [[1, 2, 3, 4]]) (W : World) (hb : Below V.heap.size V W) :
    Calls Tryz.prog 17 #[.slice A 1 c, .slice (some ⟨W.heap.size + 1, 0, none⟩) 1 1] ((W.alloc (.cells #[.int .i64 1, .int .i64 2, .int .i64 3, .int .i64 4] 3)).alloc (.cells #[.slice (some ⟨W.heap.size, 0, none⟩) 4 4] 77)) fun e w' => e = .returned (.bool true) ∧ Below W.heap.size W w' := by
  have b0 := ((Below.refl W.heap.size W).alloc (Nat.le_refl _) (.cells #[.int .i64 1, .int .i64 2, .int .i64 3, .int .i64 4] 3)).alloc (by simp) (.cells #[.slice (some ⟨W.heap.size, 0, none⟩) 4 4] 77)
  have k1 := (Blk.new W #[.int .i64 1, .int .i64 2, .int .i64 3, .int .i64 4] 3).alloc (.cells #[.slice (some ⟨W.heap.size, 0, none⟩) 4 4] 77)
  have k2 := newAt (W.alloc (.cells #[.int .i64 1, .int .i64 2, .int .i64 3, .int .i64 4] 3)) #[.slice (some ⟨W.heap.size, 0, none⟩) 4 4] 77 (World.size_alloc _ _).symm
  generalize (W.alloc (.cells #[.int .i64 1, .int .i64 2, .int .i64 3, .int .i64 4] 3)).alloc (.cells #[.slice (some ⟨W.heap.size, 0, none⟩) 4 4] 77) = X at *
  have hi : Ints X X.heap.size (some ⟨W.heap.size, 0, none⟩) [1, 2, 3, 4] := fun k hk => by
    match k, hk with
    | 0, _ => exact ⟨_, _, rfl, k1.lt, k1.cell 0⟩
    | 1, _ => exact ⟨_, _, rfl, k1.lt, k1.cell 1⟩
    | 2, _ => exact ⟨_, _, rfl, k1.lt, k1.cell 2⟩
    | 3, _ => exact ⟨_, _, rfl, k1.lt, k1.cell 3⟩
  have hn : Lists X X.heap.size (some ⟨W.heap.size + 1, 0, none⟩) [[1, 2, 3, 4]] := fun k hk => by
    match k, hk with
    | 0, _ => exact ⟨_, _, rfl, k2.lt, _, 4, k2.cell 0, hi⟩
  exact (sameLists_any [[1, 2, 3, 4]] A _ c 1 X ((h.later hb).later b0) hn (by decide) (by decide)).mono fun e w' ⟨h1, h2⟩ => ⟨h1, b0.trans (h2.mono b0.size)⟩

end Go.Proofs.YtofckokjeiaphaaGreat
