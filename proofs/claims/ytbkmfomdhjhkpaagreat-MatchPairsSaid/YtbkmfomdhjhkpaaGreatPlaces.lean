/- Whether two records have a place in common for long enough: the reference's. -/
import Derived.Test.YtbkmfomdhjhkpaaGreatClass
namespace Go.Proofs.YtbkmfomdhjhkpaaGreat
open Go.RowKit

/-- The days that two stays have in common. -/
def common (s t : Stay) : Int := ((if t.t < s.t then t.t else s.t) - if s.f < t.f then t.f else s.f) + 1
def meetB (n : Int) (s t : Stay) : Bool := decide (s.p = t.p) && decide (n ≤ common s t)
def placesB (n : Int) (l m : List Stay) : Bool := l.any fun s => m.any (meetB n s)
def placesF (n : Int) (l m : List Stay) : Int := if placesB n l m = true then 3 else 1

section
variable {α : Type} (f : α → Bool) (l : List α) (k : Nat)
theorem any_next (hk : k < l.length) (h : (l.take k).any f = false) (hf : f l[k] = false) : (l.take (k + 1)).any f = false := by
  rw [List.take_succ_eq_append_getElem hk, List.any_append, h]; simp [hf]
theorem any_stop (hk : k < l.length) (hf : f l[k] = true) : l.any f = true := by
  rw [List.any_eq_true]; exact ⟨l[k], List.getElem_mem hk, hf⟩
theorem any_end (hk : ¬ k < l.length) (h : (l.take k).any f = false) : l.any f = false := by
  rwa [List.take_of_length_le (by omega)] at h
end

theorem staysB_at {l : List Stay} (h : staysB l = true) {k : Nat} (hk : k < l.length) : inB l[k].p 0 99999 = true ∧ 0 ≤ l[k].f ∧ l[k].f ≤ 100000 ∧ 0 ≤ l[k].t ∧ l[k].t ≤ 100000 := by
  have h1 : stayB l[k] = true := by
    simp only [staysB, Bool.and_eq_true, List.all_eq_true] at h
    exact h.2 _ (List.getElem_mem hk)
  simp only [stayB, daysB, inB, Bool.and_eq_true, decide_eq_true_eq] at h1
  simp only [inB, Bool.and_eq_true, decide_eq_true_eq]
  omega

set_option maxRecDepth 100000 in
set_option maxHeartbeats 2000000 in
theorem refPlaces_any (u : Rul) (l m : List Stay) (A A' : Option Addr) (c c' : Nat) (w : World) (hA : Stays w w.heap.size A l) (hA' : Stays w w.heap.size A' m) (hl : staysB l = true) (hm : staysB m = true) :
    Calls Tryz.prog 65 #[.agg #[.int .i64 u.l, .int .i64 u.d, .int .i64 u.y, .int .i64 u.t], .slice A l.length c, .slice A' m.length c'] w fun e w' => e = .returned (.int .u8 (placesF u.t l m)) ∧ Below w.heap.size w w' := by
  have hll : l.length ≤ 6 := by simp only [staysB, Bool.and_eq_true, decide_eq_true_eq] at hl; exact hl.1
  have hmm : m.length ≤ 6 := by simp only [staysB, Bool.and_eq_true, decide_eq_true_eq] at hm; exact hm.1
  have hA1 := (hA.alloc (Nat.le_refl _) (.cells #[.int .i64 u.l, .int .i64 u.d, .int .i64 u.y, .int .i64 u.t] 23)).more (show w.heap.size ≤ w.heap.size + 1 by omega)
  have hA1' := (hA'.alloc (Nat.le_refl _) (.cells #[.int .i64 u.l, .int .i64 u.d, .int .i64 u.y, .int .i64 u.t] 23)).more (show w.heap.size ≤ w.heap.size + 1 by omega)
  have hbw : Below w.heap.size w (w.alloc (.cells #[.int .i64 u.l, .int .i64 u.d, .int .i64 u.y, .int .i64 u.t] 23)) := (Below.refl _ _).alloc (Nat.le_refl _) _
  go_enter Tryz.func65, Tryz.ntmps65
  go_wp2_with fail
  go_loopw [7] (fun ii wr => ∃ i : Nat, i ≤ l.length ∧ ii = .int .i64 i ∧ Hid ((l.take i).any (fun s => m.any (meetB u.t s)) = false) ∧ Below (w.heap.size + 1) (w.alloc (.cells #[.int .i64 u.l, .int .i64 u.d, .int .i64 u.y, .int .i64 u.t] 23)) wr) (fun ii _ => l.length - (intOf ii).toNat)
  case atStart => exact ⟨0, Nat.zero_le _, rfl, Lib.hid (by simp), Below.refl _ _⟩
  case round =>
    obtain ⟨i, hi, rfl, hall, hbel⟩ := hrel
    by_cases hlt : i < l.length
    · have hil : (i : Int) < (l.length : Int) := by omega
      go_wp2_with fail
      obtain ⟨w1, rfl⟩ : ∃ w1 : World, w1 = wr := ⟨_, rfl⟩
      go_loopw [8] (fun kk wi => ∃ k : Nat, k ≤ m.length ∧ kk = .int .i64 k ∧ Hid ((m.take k).any (meetB u.t l[i]) = false) ∧ Below (w.heap.size + 1) (w.alloc (.cells #[.int .i64 u.l, .int .i64 u.d, .int .i64 u.y, .int .i64 u.t] 23)) wi) (fun kk _ => m.length - (intOf kk).toNat)
      case atStart => exact ⟨0, Nat.zero_le _, rfl, Lib.hid (by simp), hbel⟩
      case round =>
        clear hbel
        obtain ⟨k, hk, rfl, hall', hbel⟩ := hrel
        by_cases hkm : k < m.length
        · have hkl : (k : Int) < (m.length : Int) := by omega
          obtain ⟨b, off, rfl, hb, c1, c2, c3⟩ := (hA1.below hbel) i hlt
          obtain ⟨b', off', rfl, hb', d1, d2, d3⟩ := (hA1'.below hbel) k hkm
          have hcu : ∀ i, wr.cell? ⟨w.heap.size, i, none⟩ = (#[.int .i64 u.l, .int .i64 u.d, .int .i64 u.y, .int .i64 u.t] : Array Value)[i]? := fun i => (hbel.cell (p := ⟨w.heap.size, i, none⟩) (by show w.heap.size < _; omega)).trans (World.cell?_alloc_new _ _ _ i)
          have bs := staysB_at hl hlt
          have bt := staysB_at hm hkm
          have HN := Lib.hid (any_next (meetB u.t l[i]) m k hkm hall'.out)
          have HS := Lib.hid (any_stop (meetB u.t l[i]) m k hkm)
          have HO := Lib.hid (any_stop (fun s => m.any (meetB u.t s)) l i hlt)
          clear hall hall'
          generalize l[i] = s at *
          generalize m[k] = t at *
          have hcm : common s t = ((if t.t < s.t then t.t else s.t) - if s.f < t.f then t.f else s.f) + 1 := rfl
          by_cases hp : s.p = t.p
          · have hpp : (s.p == t.p) = true := by simpa using hp
            have hmb : meetB u.t s t = decide (u.t ≤ common s t) := by simp [meetB, hp]
            go_wp2_with fail
            go_quiet (fail)
            generalize (if t.t < s.t then t.t else s.t) = q1 at *
            generalize (if s.f < t.f then t.f else s.f) = q2 at *
            go_wp2_with fail
            · have h3 : u.t ≤ q1 - q2 + 1 := by assumption
              have h4 := HO.out (HS.out (by rw [hmb, hcm]; exact decide_eq_true h3))
              go_ret
              exact ⟨ret_int (by rw [placesF, placesB, h4]; rfl), hbw.trans ((below_drewN hbel _).mono (by omega))⟩
            · have h3 : ¬ u.t ≤ q1 - q2 + 1 := by omega
              have HN2 := Lib.hid (HN.out (by rw [hmb, hcm]; exact decide_eq_false h3))
              go_roundw
              case rel => exact ⟨k + 1, by omega, by go_num, HN2, below_drewN hbel _⟩
              case measure => simp [intOf]; omega
          · have hpp : (s.p == t.p) = false := by simpa using hp
            have hmb : meetB u.t s t = false := by simp [meetB, hp]
            have HN2 := Lib.hid (HN.out hmb)
            clear hmb
            go_wp2_with fail
            go_quiet (fail)
            go_wp2
            go_roundw
            case rel => exact ⟨k + 1, by omega, by go_num, HN2, below_drewN hbel _⟩
            case measure => simp [intOf]; omega
        · have hkl : ¬ (k : Int) < (m.length : Int) := by omega
          have hout := any_end _ m k hkm hall'.out
          have HN := Lib.hid (any_next (fun s => m.any (meetB u.t s)) l i hlt hall.out hout)
          go_wp2
          go_roundw
          case rel => exact ⟨i + 1, by omega, by go_num, HN, hbel⟩
          case measure => simp [intOf]; omega
    · have hil : ¬ (i : Int) < (l.length : Int) := by omega
      have hout := any_end _ l i hlt hall.out
      go_wp2
      go_ret
      exact ⟨ret_int (by rw [placesF, placesB, hout]; rfl), hbw.trans (hbel.mono (by omega))⟩

end Go.Proofs.YtbkmfomdhjhkpaaGreat
