/- The walk of the law that checks and edits are the reference's. -/
import Derived.Test.YtmnkcblopbjiaaaEdw
namespace Go.Proofs.Ytmnkcblopbjiaaa
open Go.RowKit

theorem greatB_names {r : Rec} (h : greatB r = false) : r.names.length ≤ 8 := by
  simp only [greatB, great1, Bool.or_eq_false_iff, decide_eq_false_iff_not] at h; omega
theorem greatB_stays {r : Rec} (h : greatB r = false) : r.stays.length ≤ 10 := by
  simp only [greatB, great1, Bool.or_eq_false_iff, decide_eq_false_iff_not] at h; omega

/-- What is kept through a region that calls functions which make memory alone: three blocks, and all that was there. -/
theorem keep3 {w0 W w1 : World} {b4 b5 b9 : Nat} {c4 c5 c9 : Array Value} (n4 : b4 < w0.heap.size) (n5 : b5 < w0.heap.size) (n9 : b9 < w0.heap.size) (hb : Below W.heap.size W w1)
    (h : (∀ i, W.cell? ⟨b4, i, none⟩ = c4[i]?) ∧ (∀ i, W.cell? ⟨b5, i, none⟩ = c5[i]?) ∧ (∀ i, W.cell? ⟨b9, i, none⟩ = c9[i]?) ∧ Below w0.heap.size w0 W) :
    (∀ i, w1.cell? ⟨b4, i, none⟩ = c4[i]?) ∧ (∀ i, w1.cell? ⟨b5, i, none⟩ = c5[i]?) ∧ (∀ i, w1.cell? ⟨b9, i, none⟩ = c9[i]?) ∧ Below w0.heap.size w0 w1 := by
  have hz := h.2.2.2.size
  exact ⟨fun i => (hb.cell (p := ⟨b4, i, none⟩) (by show b4 < _; omega)).trans (h.1 i), fun i => (hb.cell (p := ⟨b5, i, none⟩) (by show b5 < _; omega)).trans (h.2.1 i), fun i => (hb.cell (p := ⟨b9, i, none⟩) (by show b9 < _; omega)).trans (h.2.2.1 i), h.2.2.2.trans (hb.mono hz)⟩
theorem RecAt.later {w0 W : World} {A D : Option Addr} {r : Rec} (h : RecAt w0 w0.heap.size A D r) (hb : Below w0.heap.size w0 W) : RecAt W W.heap.size A D r := (h.below hb).more hb.size

set_option maxRecDepth 100000 in
set_option maxHeartbeats 1000000 in
theorem matchChecks_any (u : Rul) (A D : Option Addr) (c d : Nat) (r : Rec) (x y : ByteArray) (w : World) (h : RecAt w w.heap.size A D r) :
    Calls Try.prog 3 #[.agg #[.int .i64 u.l, .int .i64 u.d, .int .i64 u.y, .int .i64 u.t], .agg #[.int .i64 r.id, .slice A r.names.length c, .int .u8 r.suf, .int .i64 r.lo, .int .i64 r.hi, .string r.num, .bool r.twin, .slice D r.stays.length d], .string x, .string y] w fun e w' => e = .returned (.bool true) ∧ Below w.heap.size w w' := by
  have g1 := (h.alloc (Nat.le_refl _) (.cells #[.int .i64 u.l, .int .i64 u.d, .int .i64 u.y, .int .i64 u.t] 23)).alloc (by simp) (.cells #[.int .i64 r.id, .slice A r.names.length c, .int .u8 r.suf, .int .i64 r.lo, .int .i64 r.hi, .string r.num, .bool r.twin, .slice D r.stays.length d] 29)
  have g2 := g1.more (show w.heap.size ≤ w.heap.size + 1 + 1 by omega)
  have g3 := (g2.alloc (by simp) (.cells #[.int .i64 r.id, .slice A r.names.length c, .int .u8 r.suf, .int .i64 r.lo, .int .i64 r.hi, .string r.num, .bool r.twin, .slice D r.stays.length d] 29)).more (show w.heap.size + 1 + 1 ≤ w.heap.size + 1 + 1 + 1 by omega)
  go_enter Try.func3, Try.ntmps3
  go_wp2_with (first
    | (go_at_call 5; refine (greatOne_any _ _ _ _ _ _ (by simpa using g2)).mono ?_; rintro e w' ⟨rfl, rfl⟩))
  · go_ret
    exact ⟨rfl, (((Below.refl _ _).alloc (Nat.le_refl _) _).alloc (by simp) _).alloc (by simp; omega) _⟩
  · go_ret
    exact ⟨rfl, (((Below.refl _ _).alloc (Nat.le_refl _) _).alloc (by simp) _).alloc (by simp; omega) _⟩
  · go_ret
    exact ⟨rfl, (((Below.refl _ _).alloc (Nat.le_refl _) _).alloc (by simp) _).alloc (by simp; omega) _⟩
  · have hg : greatB r = false := by assumption
    have Hg := Lib.hid hg
    refine (twin_any _ _ _ _ _ _ (by simpa using g3) (by have := greatB_names hg; omega) (by have := greatB_stays hg; omega)).mono ?_
    rintro e w3 ⟨A1, c1, D1, d1, rfl, r3, hb3⟩
    simp only [World.size_alloc] at hb3
    have B4 : Blk w3 w.heap.size #[.int .i64 u.l, .int .i64 u.d, .int .i64 u.y, .int .i64 u.t] 23 := (((Blk.new w _ _).alloc _).alloc _).below hb3 (by omega)
    have B5 : Blk w3 (w.heap.size + 1) #[.int .i64 r.id, .slice A r.names.length c, .int .u8 r.suf, .int .i64 r.lo, .int .i64 r.hi, .string r.num, .bool r.twin, .slice D r.stays.length d] 29 := by
      have := (Blk.new (w.alloc (.cells #[.int .i64 u.l, .int .i64 u.d, .int .i64 u.y, .int .i64 u.t] 23)) #[.int .i64 r.id, .slice A r.names.length c, .int .u8 r.suf, .int .i64 r.lo, .int .i64 r.hi, .string r.num, .bool r.twin, .slice D r.stays.length d] 29).alloc (.cells #[.int .i64 r.id, .slice A r.names.length c, .int .u8 r.suf, .int .i64 r.lo, .int .i64 r.hi, .string r.num, .bool r.twin, .slice D r.stays.length d] 29)
      rw [World.size_alloc] at this
      exact this.below hb3 (by omega)
    have g4 := (g3.below (hb3.mono (by omega)))
    have hbw : Below w.heap.size w w3 := ((((Below.refl _ _).alloc (Nat.le_refl _) _).alloc (by simp) _).alloc (by simp; omega) _).trans (hb3.mono (by omega))
    have hz3 := hb3.size
    simp only [World.size_alloc] at hz3
    go_wp2_with fail
    refine (edits2_any _ _ _).mono ?_
    rintro e w5 ⟨rfl, hb5⟩
    go_wp2_with fail
    refine (refEdits2_any _ _ _).mono ?_
    rintro e w6 ⟨rfl, hb6⟩
    go_wp2_with fail
    have B9 : Blk w6 w3.heap.size #[.int .i64 r.id, .slice A1 r.names.length c1, .int .u8 r.suf, .int .i64 r.lo, .int .i64 r.hi, .string r.num, .bool r.twin, .slice D1 r.stays.length d1] 29 := ((Blk.new w3 _ _).below hb5 (by simp)).below hb6 (by have := hb5.size; simp at this; omega)
    have hz5 := hb5.size
    have hz6 := hb6.size
    simp only [World.size_alloc] at hb5 hz5
    have k4 : Blk w6 w.heap.size #[.int .i64 u.l, .int .i64 u.d, .int .i64 u.y, .int .i64 u.t] 23 := ((B4.alloc _).below hb5 (by omega)).below hb6 (by omega)
    have k5 : Blk w6 (w.heap.size + 1) #[.int .i64 r.id, .slice A r.names.length c, .int .u8 r.suf, .int .i64 r.lo, .int .i64 r.hi, .string r.num, .bool r.twin, .slice D r.stays.length d] 29 := ((B5.alloc _).below hb5 (by omega)).below hb6 (by omega)
    have b6 : Below w3.heap.size w3 w6 := (((Below.refl _ _).alloc (Nat.le_refl _) _).trans (hb5.mono (by omega))).trans (hb6.mono (by omega))
    have r9 : RecAt w6 w6.heap.size A1 D1 r := (r3.below b6).more (by omega)
    have r5 : RecAt w6 w6.heap.size A D r := (g4.below (b6.mono (by omega))).more (by omega)
    have hbw6 : Below w.heap.size w w6 := hbw.trans (b6.mono (by omega))
    have c4 := k4.cell
    have c5 := k5.cell
    have c9 := B9.cell
    have n4 : w.heap.size < w6.heap.size := k4.lt
    have n5 : w.heap.size + 1 < w6.heap.size := k5.lt
    have n9 : w3.heap.size < w6.heap.size := B9.lt
    have hbd : Below w6.heap.size w6 w6.drew := (Below.refl _ _).drew
    clear B4 B5 B9 k4 k5 hb5 hb6 hb3 g1 g2 g3 g4 r3 hbw
    go_region_held3 (fun w' => (∀ i, w'.cell? ⟨w.heap.size, i, none⟩ = (#[.int .i64 u.l, .int .i64 u.d, .int .i64 u.y, .int .i64 u.t] : Array Value)[i]?) ∧ (∀ i, w'.cell? ⟨w.heap.size + 1, i, none⟩ = (#[.int .i64 r.id, .slice A r.names.length c, .int .u8 r.suf, .int .i64 r.lo, .int .i64 r.hi, .string r.num, .bool r.twin, .slice D r.stays.length d] : Array Value)[i]?) ∧ (∀ i, w'.cell? ⟨w3.heap.size, i, none⟩ = (#[.int .i64 r.id, .slice A1 r.names.length c1, .int .u8 r.suf, .int .i64 r.lo, .int .i64 r.hi, .string r.num, .bool r.twin, .slice D1 r.stays.length d1] : Array Value)[i]?) ∧ Below w6.heap.size w6 w')
      (first | (simp [*]; done) | (refine keep3 n4 n5 n9 (by assumption) ?_; first | assumption | (simp [*]; done)))
      (first
        | (go_at_call 9; refine (check_any u A1 D1 c1 d1 r _ (r9.later (by first | assumption | (simp [*]; done)))).mono ?_; rintro e wa ⟨rfl, hba⟩)
        | (go_at_call 10; refine (refCheck_any u A D c d r _ (r5.later (by first | assumption | (simp [*]; done)))).mono ?_; rintro e wb ⟨rfl, hbb⟩)
        | (go_at_call 11; refine (same_any A1 D1 A D c1 d1 c d r _ (r9.later (by first | assumption | (simp [*]; done))) (r5.later (by first | assumption | (simp [*]; done)))).mono ?_; rintro e wc ⟨rfl, hbc⟩))
    go_wp2
    go_ret
    refine ⟨rfl, hbw6.trans (Below.mono (B := w6.heap.size) ?_ (by have := hbw6.size; omega))⟩
    first | assumption | (simp [*]; done)

end Go.Proofs.Ytmnkcblopbjiaaa
