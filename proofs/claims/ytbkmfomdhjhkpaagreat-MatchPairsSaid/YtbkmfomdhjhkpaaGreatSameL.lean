/- Lists of numbers, of pairs, and of lists, that read alike, are the same. -/
import Derived.Test.YtbkmfomdhjhkpaaGreatHomesW
import Derived.Test.YtbkmfomdhjhkpaaGreatSame
import Derived.ChangeKeysEq
namespace Go.Proofs.YtbkmfomdhjhkpaaGreat
open Go.RowKit

/-- The slice at A holds the pairs l, below block B. -/
def Prs (w : World) (B : Nat) (A : Option Addr) (l : List (Int × Int)) : Prop :=
  ∀ k, (h : k < l.length) → ∃ b off, A = some ⟨b, off, none⟩ ∧ b < B ∧ w.cell? ⟨b, off + k * 2, none⟩ = some (.int .i64 l[k].1) ∧ w.cell? ⟨b, off + k * 2 + 1, none⟩ = some (.int .i64 l[k].2)
theorem Prs.below {w w' : World} {B : Nat} {A : Option Addr} {l : List (Int × Int)} (h : Prs w B A l) (hb : Below B w w') : Prs w' B A l := fun k hk => by
  obtain ⟨b, off, e, h1, h2, h3⟩ := h k hk
  exact ⟨b, off, e, h1, (hb.cell (p := ⟨b, off + k * 2, none⟩) h1).trans h2, (hb.cell (p := ⟨b, off + k * 2 + 1, none⟩) h1).trans h3⟩
theorem Prs.more {w : World} {B B' : Nat} {A : Option Addr} {l : List (Int × Int)} (h : Prs w B A l) (hB : B ≤ B') : Prs w B' A l := fun k hk => by
  obtain ⟨b, off, e, h1, h2⟩ := h k hk
  exact ⟨b, off, e, by omega, h2⟩
theorem Prs.later {w0 W : World} {A : Option Addr} {l : List (Int × Int)} (h : Prs w0 w0.heap.size A l) (hb : Below w0.heap.size w0 W) : Prs W W.heap.size A l := (h.below hb).more hb.size
theorem pairCells_get : ∀ (l : List (Int × Int)) (k : Nat) (h : k < l.length), (pairCells l)[k * 2]? = some (.int .i64 l[k].1) ∧ (pairCells l)[k * 2 + 1]? = some (.int .i64 l[k].2)
  | p :: l, 0, _ => ⟨rfl, rfl⟩
  | p :: l, k + 1, h => by
    have ih := pairCells_get l k (by simpa using h)
    have e : pairCells (p :: l) = .int .i64 p.1 :: .int .i64 p.2 :: pairCells l := rfl
    rw [e, show (k + 1) * 2 = k * 2 + 1 + 1 by omega]
    exact ih
theorem pairCells_len (l : List (Int × Int)) : (pairCells l).length = l.length * 2 := by
  induction l with
  | nil => rfl
  | cons p l ih => rw [show pairCells (p :: l) = .int .i64 p.1 :: .int .i64 p.2 :: pairCells l from rfl]; simp [ih]; omega
theorem Prs.of_own {w : World} {base : Nat} {A : Option Addr} {c : Nat} {l : List (Int × Int)} (h : w.ownsRow base 71 2 (.slice A l.length c) l.length (pairCells l)) : Prs w w.heap.size A l := by
  intro k hk
  obtain ⟨g, cap, hv, hb, hlt⟩ := h.form (by omega)
  injection hv with hA
  subst hA
  obtain ⟨h1, h2⟩ := pairCells_get l k hk
  have hn := pairCells_len l
  refine ⟨g, 0, rfl, hlt, ?_, ?_⟩
  · rw [Nat.zero_add]; exact (World.ownsRow.cellAt (n := l.length) (size := 2) h (k * 2) (by omega)).trans h1
  · rw [Nat.zero_add]; exact (World.ownsRow.cellAt (n := l.length) (size := 2) h (k * 2 + 1) (by omega)).trans h2
theorem Lists.below {w w' : World} {B : Nat} {A : Option Addr} {l : List (List Int)} (h : Lists w B A l) (hb : Below B w w') : Lists w' B A l := fun k hk => by
  obtain ⟨b, off, e, h1, A', c', h2, h3⟩ := h k hk
  exact ⟨b, off, e, h1, A', c', (hb.cell (p := ⟨b, off + k, none⟩) h1).trans h2, h3.below hb⟩
theorem Lists.more {w : World} {B B' : Nat} {A : Option Addr} {l : List (List Int)} (h : Lists w B A l) (hB : B ≤ B') : Lists w B' A l := fun k hk => by
  obtain ⟨b, off, e, h1, A', c', h2, h3⟩ := h k hk
  exact ⟨b, off, e, by omega, A', c', h2, h3.more hB⟩
theorem Lists.later {w0 W : World} {A : Option Addr} {l : List (List Int)} (h : Lists w0 w0.heap.size A l) (hb : Below w0.heap.size w0 W) : Lists W W.heap.size A l := (h.below hb).more hb.size

theorem partFst (x y : Value) (W : World) : (Go.part 3 #[x, y] 0).run Tryz.prog W = .ok x W := by kernel_rfl
theorem partSnd (x y : Value) (W : World) : (Go.part 3 #[x, y] 1).run Tryz.prog W = .ok y W := by kernel_rfl
@[local go_sem] theorem pairEqual (x y : Int) (W : World) : (Op.equalIn 10000 71 (.agg #[.int .i64 x, .int .i64 y]) (.agg #[.int .i64 x, .int .i64 y])).run Tryz.prog W = .ok true W := by
  have hu : Tryz.prog.underlying 71 = some (.array 2 3) := Tryz.underlying71
  obtain ⟨i, hi, _, _, _⟩ := info_parts intInfo
  refine (run_equalIn_array W 9999 _ _ hu hi).trans ?_
  have hc : Tryz.prog.cellsOf 3 = 1 := by kernel_rfl
  have e1 := fun W => run_equalIn_int (P := Tryz.prog) W 9998 3 .i64 .i64 x x Tryz.underlying3
  have e2 := fun W => run_equalIn_int (P := Tryz.prog) W 9998 3 .i64 .i64 y y Tryz.underlying3
  simp [Op.eqItems, hc, List.range_succ, partFst, partSnd, e1, e2]

set_option maxRecDepth 100000 in
set_option maxHeartbeats 1000000 in
theorem sameInts_any (l : List Int) (A A' : Option Addr) (c c' : Nat) (w : World) (h : Ints w w.heap.size A l) (h' : Ints w w.heap.size A' l) (hl : l.length ≤ maxLen) :
    Calls Tryz.prog 43 #[.slice A l.length c, .slice A' l.length c'] w fun e w' => e = .returned (.bool true) ∧ Below w.heap.size w w' := by
  unfold maxLen at hl
  go_enter Tryz.func43, Tryz.ntmps43
  go_wp2_with fail
  go_loopw [5] (fun i wr => ∃ k : Nat, k ≤ l.length ∧ i = .int .i64 k ∧ ∃ m, wr = w.drewN m) (fun i _ => l.length - (intOf i).toNat)
  case atStart => exact ⟨0, Nat.zero_le _, rfl, 0, rfl⟩
  case round =>
    obtain ⟨k, hk, rfl, m, rfl⟩ := hrel
    by_cases hlt : k < l.length
    · obtain ⟨b, off, rfl, hb, hc⟩ := h k hlt
      obtain ⟨b', off', rfl, hb', hc'⟩ := h' k hlt
      generalize l[k] = s at hc hc'
      have hlt' : (k : Int) < (l.length : Int) := by omega
      go_wp2
      go_quiet (fail)
      go_wp2
      go_roundw
      case rel => exact ⟨k + 1, by omega, by go_num, _, rfl⟩
      case measure => simp [intOf]; omega
    · go_wp2
      go_ret
      exact ⟨rfl, below_drewN (Below.refl _ _) _⟩

set_option maxRecDepth 100000 in
set_option maxHeartbeats 1000000 in
theorem samePairs_any (l : List (Int × Int)) (A A' : Option Addr) (c c' : Nat) (w : World) (h : Prs w w.heap.size A l) (h' : Prs w w.heap.size A' l) (hl : l.length ≤ maxLen) :
    Calls Tryz.prog 16 #[.slice A l.length c, .slice A' l.length c'] w fun e w' => e = .returned (.bool true) ∧ Below w.heap.size w w' := by
  unfold maxLen at hl
  go_enter Tryz.func16, Tryz.ntmps16
  go_wp2_with fail
  go_loopw [5] (fun i wr => ∃ k : Nat, k ≤ l.length ∧ i = .int .i64 k ∧ ∃ m, wr = w.drewN m) (fun i _ => l.length - (intOf i).toNat)
  case atStart => exact ⟨0, Nat.zero_le _, rfl, 0, rfl⟩
  case round =>
    obtain ⟨k, hk, rfl, m, rfl⟩ := hrel
    by_cases hlt : k < l.length
    · obtain ⟨b, off, rfl, hb, hc, hc2⟩ := h k hlt
      obtain ⟨b', off', rfl, hb', hc', hc2'⟩ := h' k hlt
      generalize l[k] = s at hc hc' hc2 hc2'
      obtain ⟨s1, s2⟩ := s
      have hlt' : (k : Int) < (l.length : Int) := by omega
      go_wp2
      go_quiet (fail)
      go_wp2
      go_roundw
      case rel => exact ⟨k + 1, by omega, by go_num, _, rfl⟩
      case measure => simp [intOf]; omega
    · go_wp2
      go_ret
      exact ⟨rfl, below_drewN (Below.refl _ _) _⟩

set_option maxRecDepth 100000 in
set_option maxHeartbeats 1000000 in
theorem sameLists_any (l : List (List Int)) (A A' : Option Addr) (c c' : Nat) (w : World) (h : Lists w w.heap.size A l) (h' : Lists w w.heap.size A' l) (hl : l.length ≤ maxLen) (hll : ∀ x ∈ l, x.length ≤ maxLen) :
    Calls Tryz.prog 17 #[.slice A l.length c, .slice A' l.length c'] w fun e w' => e = .returned (.bool true) ∧ Below w.heap.size w w' := by
  unfold maxLen at hl
  go_enter Tryz.func17, Tryz.ntmps17
  go_wp2_with fail
  go_loopw [5] (fun i wr => ∃ k : Nat, k ≤ l.length ∧ i = .int .i64 k ∧ Below w.heap.size w wr) (fun i _ => l.length - (intOf i).toNat)
  case atStart => exact ⟨0, Nat.zero_le _, rfl, Below.refl _ _⟩
  case round =>
    obtain ⟨k, hk, rfl, hbel⟩ := hrel
    by_cases hlt : k < l.length
    · obtain ⟨b, off, rfl, hb, B1, d1, hc, hi⟩ := (h.below hbel) k hlt
      obtain ⟨b', off', rfl, hb', B2, d2, hc', hi'⟩ := (h'.below hbel) k hlt
      have hle := hll _ (List.getElem_mem hlt)
      generalize l[k] = s at hc hc' hi hi' hle
      have hlt' : (k : Int) < (l.length : Int) := by omega
      have HS := Lib.hid (fun W h1 h2 => sameInts_any s B1 B2 d1 d2 W h1 h2 hle)
      have nB := hbel.size
      have gc := After.cell (B := w.heap.size) hc hb
      have gc' := After.cell (B := w.heap.size) hc' hb'
      have gi : ∀ x : After w.heap.size wr, Ints x.val x.val.heap.size B1 s := fun x => (hi.below x.property).more (Nat.le_trans nB x.property.size)
      have gi' : ∀ x : After w.heap.size wr, Ints x.val x.val.heap.size B2 s := fun x => (hi'.below x.property).more (Nat.le_trans nB x.property.size)
      clear hi hi' hc hc'
      go_wp2
      refine wp_region_class_lit (C := fun w' => ∃ x : After w.heap.size wr, w' = x.val) (by kernel_rfl) (by kernel_rfl) ⟨⟨_, (Below.refl _ _).drew⟩, rfl⟩ ?_
      repeat (go_big_quiet_step ((go_at_call 43; exact after_of nB _ (HS.out _ (gi _) (gi' _)))))
      refine wpQuiet_nil ?_
      intro _ hw'
      obtain ⟨⟨wz, hz⟩, hw''⟩ := hw'
      dsimp only at hw''
      subst hw''
      go_wp2
      go_roundw
      case rel => exact ⟨k + 1, by omega, by go_num, hbel.trans hz⟩
      case measure => simp [intOf]; omega
    · go_wp2
      go_ret
      exact ⟨rfl, hbel⟩

end Go.Proofs.YtbkmfomdhjhkpaaGreat
