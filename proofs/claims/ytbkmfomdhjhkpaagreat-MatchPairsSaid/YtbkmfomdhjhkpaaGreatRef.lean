/- The reference's functions that tell whether a record is valid or great, and the checks of both. -/
import Derived.Test.YtbkmfomdhjhkpaaGreatMem
namespace Go.Proofs.YtbkmfomdhjhkpaaGreat
open Go.RowKit

theorem recB_id {r : Rec} (h : inB r.id 0 999999 = false) : recB r = false := by simp [recB, h]
theorem recB_names {r : Rec} (h : namesB r.names = false) : recB r = false := by simp [recB, h]
theorem recB_suf {r : Rec} (h : 2 < r.suf) : recB r = false := by
  have h2 : ¬ r.suf ≤ 2 := by omega
  simp [recB, h2]
theorem recB_days {r : Rec} (h : daysB r.lo r.hi = false) : recB r = false := by simp [recB, h]
theorem recB_num {r : Rec} (h : numB r.num.data.toList = false) : recB r = false := by simp [recB, h]
theorem recB_stays {r : Rec} (h : staysB r.stays = false) : recB r = false := by simp [recB, h]
theorem span_days (a b : Int) : (decide (0 ≤ a) && decide (a ≤ b) && decide (b ≤ 100000)) = daysB a b := by
  rw [Bool.eq_iff_iff]; simp [daysB, inB]; omega

theorem len_size (s : ByteArray) : s.data.toList.length = s.size := rfl
theorem numB_none {s : ByteArray} (h : (s.size : Int) = 0) : numB s.data.toList = true := by
  have h0 : s.data.toList.length = 0 := by rw [len_size]; omega
  rw [List.length_eq_zero_iff] at h0
  rw [h0]; rfl
theorem allB_none {s : ByteArray} (lo hi : Int) (h : (s.size : Int) = 0) : allB s.data.toList lo hi = true := by
  have h0 : s.data.toList.length = 0 := by rw [len_size]; omega
  rw [List.length_eq_zero_iff] at h0
  rw [h0]; rfl
theorem numB_some {s : ByteArray} (h : ¬ (s.size : Int) = 0) : numB s.data.toList = (decide (s.size = 9) && allB s.data.toList 48 57) := by
  have h0 : s.data.toList.isEmpty = false := by
    cases hl : s.data.toList with
    | nil => exfalso; apply h; have := len_size s; rw [hl] at this; simp at this; omega
    | cons a l => rfl
  rw [numB, h0, Bool.false_or, len_size]

set_option maxHeartbeats 400000 in
theorem refRecord_days (A D : Option Addr) (c d : Nat) (r : Rec) (w : World) (_h : RecAt w w.heap.size A D r) (hday : daysB r.lo r.hi = false) :
    Calls Tryz.prog 21 #[.agg #[.int .i64 r.id, .slice A r.names.length c, .int .u8 r.suf, .int .i64 r.lo, .int .i64 r.hi, .string r.num, .bool r.twin, .slice D r.stays.length d]] w fun e w' => e = .returned (.bool (recB r)) ∧ Below w.heap.size w w' := by
  go_enter Tryz.func21, Tryz.ntmps21
  go_wp2_with (first
    | (go_at_call 42; refine (refWithin_any _ _ _ _).mono ?_; rintro e w' ⟨rfl, rfl⟩)
    | (go_at_call 47; refine (spanned_any _ _ _ _ _).mono ?_; rintro e w' ⟨rfl, rfl⟩; rw [span_days, hday]))
  · go_ret
    exact ⟨ret_bool (recB_id (by assumption)).symm, (Below.refl _ _).alloc (Nat.le_refl _) _⟩
  · go_ret
    exact ⟨ret_bool (recB_names (by simp [namesB, *])).symm, (Below.refl _ _).alloc (Nat.le_refl _) _⟩
  · go_ret
    exact ⟨ret_bool (recB_suf (by assumption)).symm, (Below.refl _ _).alloc (Nat.le_refl _) _⟩
  · go_ret
    exact ⟨ret_bool (recB_days hday).symm, ((Below.refl _ _).alloc (Nat.le_refl _) _).alloc (by simp) _⟩

set_option maxHeartbeats 400000 in
theorem refRecord_many (A D : Option Addr) (c d : Nat) (r : Rec) (w : World) (_h : RecAt w w.heap.size A D r) (hday : daysB r.lo r.hi = true) (hd : decide ((6 : Int) < (r.stays.length : Int)) = true) :
    Calls Tryz.prog 21 #[.agg #[.int .i64 r.id, .slice A r.names.length c, .int .u8 r.suf, .int .i64 r.lo, .int .i64 r.hi, .string r.num, .bool r.twin, .slice D r.stays.length d]] w fun e w' => e = .returned (.bool (recB r)) ∧ Below w.heap.size w w' := by
  have g' : ¬ r.stays.length ≤ 6 := by have := of_decide_eq_true hd; omega
  have hst : recB r = false := recB_stays (by simp [staysB, g'])
  go_enter Tryz.func21, Tryz.ntmps21
  go_wp2_with (first
    | (go_at_call 42; refine (refWithin_any _ _ _ _).mono ?_; rintro e w' ⟨rfl, rfl⟩)
    | (go_at_call 47; refine (spanned_any _ _ _ _ _).mono ?_; rintro e w' ⟨rfl, rfl⟩; rw [span_days, hday]))
  · go_ret
    exact ⟨ret_bool (recB_id (by assumption)).symm, (Below.refl _ _).alloc (Nat.le_refl _) _⟩
  · go_ret
    exact ⟨ret_bool (recB_names (by simp [namesB, *])).symm, (Below.refl _ _).alloc (Nat.le_refl _) _⟩
  · go_ret
    exact ⟨ret_bool (recB_suf (by assumption)).symm, (Below.refl _ _).alloc (Nat.le_refl _) _⟩
  · go_ret
    exact ⟨ret_bool hst.symm, ((Below.refl _ _).alloc (Nat.le_refl _) _).alloc (by simp) _⟩

set_option maxRecDepth 100000 in
set_option maxHeartbeats 1000000 in
theorem refRecord_num (A D : Option Addr) (c d : Nat) (r : Rec) (w : World) (h : RecAt w w.heap.size A D r) (hday : daysB r.lo r.hi = true) (hd : decide ((6 : Int) < (r.stays.length : Int)) = false) (hnb : numB r.num.data.toList = false) :
    Calls Tryz.prog 21 #[.agg #[.int .i64 r.id, .slice A r.names.length c, .int .u8 r.suf, .int .i64 r.lo, .int .i64 r.hi, .string r.num, .bool r.twin, .slice D r.stays.length d]] w fun e w' => e = .returned (.bool (recB r)) ∧ Below w.heap.size w w' := by
  have hnl := h.names_le
  have hsl := h.stays_le
  have hnum := h.num_le
  unfold maxLen at hnl hsl
  have g5 : (r.stays.length : Int) ≤ 6 := by have := of_decide_eq_false hd; omega
  go_enter Tryz.func21, Tryz.ntmps21
  go_wp2_with (first
    | (go_at_call 42; refine (refWithin_any _ _ _ _).mono ?_; rintro e w' ⟨rfl, rfl⟩)
    | (go_at_call 47; refine (spanned_any _ _ _ _ _).mono ?_; rintro e w' ⟨rfl, rfl⟩; rw [span_days, hday]))
  · go_ret
    exact ⟨ret_bool (recB_id (by assumption)).symm, (Below.refl _ _).alloc (Nat.le_refl _) _⟩
  · go_ret
    exact ⟨ret_bool (recB_names (by simp [namesB, *])).symm, (Below.refl _ _).alloc (Nat.le_refl _) _⟩
  · go_ret
    exact ⟨ret_bool (recB_suf (by assumption)).symm, (Below.refl _ _).alloc (Nat.le_refl _) _⟩
  · have g1 : inB r.id 0 999999 = true := by assumption
    have g2 : inB (r.names.length : Int) 1 5 = true := by assumption
    have g3 : r.suf ≤ 2 := by assumption
    have h2 := (h.alloc (Nat.le_refl _) (.cells #[.int .i64 r.id, .slice A r.names.length c, .int .u8 r.suf, .int .i64 r.lo, .int .i64 r.hi, .string r.num, .bool r.twin, .slice D r.stays.length d] 47)).alloc (by simp) (.cells #[.int .i64 r.lo, .int .i64 r.hi] 44)
    have hs2 := h2.strs
    go_loopg [3] r.names.length (fun m i wr => ∃ k : Nat, k ≤ r.names.length ∧ i = .int .i64 k ∧ Hid (m = r.names.length - k) ∧ Hid ((r.names.take k).all wordB = true) ∧ wr = (w.alloc (.cells #[.int .i64 r.id, .slice A r.names.length c, .int .u8 r.suf, .int .i64 r.lo, .int .i64 r.hi, .string r.num, .bool r.twin, .slice D r.stays.length d] 47)).alloc (.cells #[.int .i64 r.lo, .int .i64 r.hi] 44))
    case atStart => exact ⟨0, Nat.zero_le _, rfl, rfl, rfl, rfl⟩
    case round =>
      obtain ⟨k, hk, rfl, hm, hall, rfl⟩ := hrel
      by_cases hlt : k < r.names.length
      · obtain ⟨b, off, rfl, hb, hc, hs⟩ := hs2 k hlt
        have HN := Lib.hid (all_next wordB r.names k hlt hall.out)
        have HS := Lib.hid (all_stop wordB r.names k hlt)
        generalize r.names[k] = s at hc hs HN HS
        go_wp2_with (first
          | (go_at_call 42; refine (refWithin_any _ _ _ _).mono ?_; rintro e w' ⟨rfl, rfl⟩)
          | (go_at_call 48; refine (of_any _ _ _ _ hs).mono ?_; rintro e w' ⟨rfl, rfl⟩))
        · have h1 : inB (s.size : Int) 1 20 = false := by assumption
          go_ret
          exact ⟨ret_bool (recB_names (by rw [namesB, HS.out (by rw [wordB, h1]; rfl), Bool.and_false])).symm, ((Below.refl _ _).alloc (Nat.le_refl _) _).alloc (by simp) _⟩
        · have h1 : (!allB s.data.toList 65 90) = true := by assumption
          go_ret
          exact ⟨ret_bool (recB_names (by rw [namesB, HS.out (by rw [wordB]; simp at h1; rw [h1, Bool.and_false]), Bool.and_false])).symm, ((Below.refl _ _).alloc (Nat.le_refl _) _).alloc (by simp) _⟩
        · have h1 : inB (s.size : Int) 1 20 = true := by assumption
          have h3 : (!allB s.data.toList 65 90) = false := by assumption
          go_roundg (r.names.length - (k + 1))
          case rel => exact ⟨k + 1, by omega, by go_num, rfl, Lib.hid (HN.out (by simp at h3; rw [wordB, h1, h3]; rfl)), rfl⟩
          case measure => rw [hm.out]; omega
      · have hnames : Hid (namesB r.names = true) := Lib.hid (by rw [namesB, g2, all_end wordB r.names k hlt hall.out]; rfl)
        clear hall
        have Hnb := Lib.hid hnb
        clear hnb
        go_upto_region 8 with fail
        go_cut [73] (fun s wx => s = .bool true ∧ wx = (w.alloc (.cells #[.int .i64 r.id, .slice A r.names.length c, .int .u8 r.suf, .int .i64 r.lo, .int .i64 r.hi, .string r.num, .bool r.twin, .slice D r.stays.length d] 47)).alloc (.cells #[.int .i64 r.lo, .int .i64 r.hi] 44))
        case first =>
          go_wp2_with (go_at_call 48; refine (of_any _ _ _ _ h2.num_le).mono ?_; rintro e w' ⟨rfl, rfl⟩)
          · have h0 : ¬ (r.num.size : Int) = 0 := by assumption
            have h9 : ¬ (r.num.size : Int) = 9 := by assumption
            have h9' : ¬ r.num.size = 9 := by omega
            go_meet
            have hx := Hnb.out
            rw [numB_some h0] at hx
            simp [h9'] at hx
            try exact ⟨rfl, rfl⟩
          · have h0 : ¬ (r.num.size : Int) = 0 := by assumption
            have h9 : (r.num.size : Int) = 9 := by assumption
            have h9' : r.num.size = 9 := by omega
            go_meet
            have hx := Hnb.out
            rw [numB_some h0] at hx
            simp [h9'] at hx
            exact ⟨by rw [hx]; rfl, rfl⟩
          · have h0 : (r.num.size : Int) = 0 := by assumption
            go_meet
            have hx := Hnb.out
            rw [numB_none h0] at hx
            first
              | exact absurd hx (by decide)
              | exact ⟨by rw [allB_none 48 57 h0]; rfl, rfl⟩
        case rest =>
          obtain ⟨rfl, rfl⟩ := hcut
          go_wp2
          go_ret
          exact ⟨ret_bool (recB_num Hnb.out).symm, ((Below.refl _ _).alloc (Nat.le_refl _) _).alloc (by simp) _⟩

set_option maxRecDepth 100000 in
set_option maxHeartbeats 1000000 in
theorem refRecord_few (A D : Option Addr) (c d : Nat) (r : Rec) (w : World) (h : RecAt w w.heap.size A D r) (hday : daysB r.lo r.hi = true) (hd : decide ((6 : Int) < (r.stays.length : Int)) = false) (hnb : numB r.num.data.toList = true) :
    Calls Tryz.prog 21 #[.agg #[.int .i64 r.id, .slice A r.names.length c, .int .u8 r.suf, .int .i64 r.lo, .int .i64 r.hi, .string r.num, .bool r.twin, .slice D r.stays.length d]] w fun e w' => e = .returned (.bool (recB r)) ∧ Below w.heap.size w w' := by
  have hnl := h.names_le
  have hsl := h.stays_le
  have hnum := h.num_le
  unfold maxLen at hnl hsl
  have g5 : (r.stays.length : Int) ≤ 6 := by have := of_decide_eq_false hd; omega
  go_enter Tryz.func21, Tryz.ntmps21
  go_wp2_with (first
    | (go_at_call 42; refine (refWithin_any _ _ _ _).mono ?_; rintro e w' ⟨rfl, rfl⟩)
    | (go_at_call 47; refine (spanned_any _ _ _ _ _).mono ?_; rintro e w' ⟨rfl, rfl⟩; rw [span_days, hday]))
  · go_ret
    exact ⟨ret_bool (recB_id (by assumption)).symm, (Below.refl _ _).alloc (Nat.le_refl _) _⟩
  · go_ret
    exact ⟨ret_bool (recB_names (by simp [namesB, *])).symm, (Below.refl _ _).alloc (Nat.le_refl _) _⟩
  · go_ret
    exact ⟨ret_bool (recB_suf (by assumption)).symm, (Below.refl _ _).alloc (Nat.le_refl _) _⟩
  · have g1 : inB r.id 0 999999 = true := by assumption
    have g2 : inB (r.names.length : Int) 1 5 = true := by assumption
    have g3 : r.suf ≤ 2 := by assumption
    have h2 := (h.alloc (Nat.le_refl _) (.cells #[.int .i64 r.id, .slice A r.names.length c, .int .u8 r.suf, .int .i64 r.lo, .int .i64 r.hi, .string r.num, .bool r.twin, .slice D r.stays.length d] 47)).alloc (by simp) (.cells #[.int .i64 r.lo, .int .i64 r.hi] 44)
    have hs2 := h2.strs
    go_loopg [3] r.names.length (fun m i wr => ∃ k : Nat, k ≤ r.names.length ∧ i = .int .i64 k ∧ Hid (m = r.names.length - k) ∧ Hid ((r.names.take k).all wordB = true) ∧ wr = (w.alloc (.cells #[.int .i64 r.id, .slice A r.names.length c, .int .u8 r.suf, .int .i64 r.lo, .int .i64 r.hi, .string r.num, .bool r.twin, .slice D r.stays.length d] 47)).alloc (.cells #[.int .i64 r.lo, .int .i64 r.hi] 44))
    case atStart => exact ⟨0, Nat.zero_le _, rfl, rfl, rfl, rfl⟩
    case round =>
      obtain ⟨k, hk, rfl, hm, hall, rfl⟩ := hrel
      by_cases hlt : k < r.names.length
      · obtain ⟨b, off, rfl, hb, hc, hs⟩ := hs2 k hlt
        have HN := Lib.hid (all_next wordB r.names k hlt hall.out)
        have HS := Lib.hid (all_stop wordB r.names k hlt)
        generalize r.names[k] = s at hc hs HN HS
        go_wp2_with (first
          | (go_at_call 42; refine (refWithin_any _ _ _ _).mono ?_; rintro e w' ⟨rfl, rfl⟩)
          | (go_at_call 48; refine (of_any _ _ _ _ hs).mono ?_; rintro e w' ⟨rfl, rfl⟩))
        · have h1 : inB (s.size : Int) 1 20 = false := by assumption
          go_ret
          exact ⟨ret_bool (recB_names (by rw [namesB, HS.out (by rw [wordB, h1]; rfl), Bool.and_false])).symm, ((Below.refl _ _).alloc (Nat.le_refl _) _).alloc (by simp) _⟩
        · have h1 : (!allB s.data.toList 65 90) = true := by assumption
          go_ret
          exact ⟨ret_bool (recB_names (by rw [namesB, HS.out (by rw [wordB]; simp at h1; rw [h1, Bool.and_false]), Bool.and_false])).symm, ((Below.refl _ _).alloc (Nat.le_refl _) _).alloc (by simp) _⟩
        · have h1 : inB (s.size : Int) 1 20 = true := by assumption
          have h3 : (!allB s.data.toList 65 90) = false := by assumption
          go_roundg (r.names.length - (k + 1))
          case rel => exact ⟨k + 1, by omega, by go_num, rfl, Lib.hid (HN.out (by simp at h3; rw [wordB, h1, h3]; rfl)), rfl⟩
          case measure => rw [hm.out]; omega
      · have hnames : Hid (namesB r.names = true) := Lib.hid (by rw [namesB, g2, all_end wordB r.names k hlt hall.out]; rfl)
        clear hall
        have Hnb := Lib.hid hnb
        clear hnb
        go_upto_region 8 with fail
        go_cut [73] (fun s wx => s = .bool false ∧ wx = (w.alloc (.cells #[.int .i64 r.id, .slice A r.names.length c, .int .u8 r.suf, .int .i64 r.lo, .int .i64 r.hi, .string r.num, .bool r.twin, .slice D r.stays.length d] 47)).alloc (.cells #[.int .i64 r.lo, .int .i64 r.hi] 44))
        case first =>
          go_wp2_with (go_at_call 48; refine (of_any _ _ _ _ h2.num_le).mono ?_; rintro e w' ⟨rfl, rfl⟩)
          · have h0 : ¬ (r.num.size : Int) = 0 := by assumption
            have h9 : ¬ (r.num.size : Int) = 9 := by assumption
            have h9' : ¬ r.num.size = 9 := by omega
            go_meet
            have hx := Hnb.out
            rw [numB_some h0] at hx
            simp [h9'] at hx
            try exact ⟨rfl, rfl⟩
          · have h0 : ¬ (r.num.size : Int) = 0 := by assumption
            have h9 : (r.num.size : Int) = 9 := by assumption
            have h9' : r.num.size = 9 := by omega
            go_meet
            have hx := Hnb.out
            rw [numB_some h0] at hx
            simp [h9'] at hx
            exact ⟨by rw [hx]; rfl, rfl⟩
          · have h0 : (r.num.size : Int) = 0 := by assumption
            go_meet
            have hx := Hnb.out
            rw [numB_none h0] at hx
            first
              | exact absurd hx (by decide)
              | exact ⟨by rw [allB_none 48 57 h0]; rfl, rfl⟩
        case rest =>
          obtain ⟨rfl, rfl⟩ := hcut
          go_wp2
          have hst2 := h2.stays
          go_loopw [4] (fun i wr => ∃ k : Nat, k ≤ r.stays.length ∧ i = .int .i64 k ∧ Hid ((r.stays.take k).all stayB = true) ∧ Below (w.heap.size + 2) ((w.alloc (.cells #[.int .i64 r.id, .slice A r.names.length c, .int .u8 r.suf, .int .i64 r.lo, .int .i64 r.hi, .string r.num, .bool r.twin, .slice D r.stays.length d] 47)).alloc (.cells #[.int .i64 r.lo, .int .i64 r.hi] 44)) wr) (fun i _ => r.stays.length - (intOf i).toNat)
          case atStart => exact ⟨0, Nat.zero_le _, rfl, rfl, Below.refl _ _⟩
          case round =>
            obtain ⟨k, hk, rfl, hall, hbel⟩ := hrel
            have hsz := hbel.size
            simp only [World.size_alloc] at hsz
            have hc7 : wr.cell? ⟨w.heap.size, 7, none⟩ = some (.slice D r.stays.length d) := (hbel.cell (p := ⟨w.heap.size, 7, none⟩) (by show w.heap.size < _; omega)).trans (by simp)
            have hbw : Below w.heap.size w wr := (((Below.refl _ _).alloc (Nat.le_refl _) _).alloc (by simp) _).trans (hbel.mono (by omega))
            by_cases hlt : k < r.stays.length
            · obtain ⟨b, off, rfl, hb, c1, c2, c3⟩ := ((hst2.more (Nat.le_add_right _ 2)).below hbel) k hlt
              have HN := Lib.hid (all_next stayB r.stays k hlt hall.out)
              have HS := Lib.hid (all_stop stayB r.stays k hlt)
              generalize r.stays[k] = s at c1 c2 c3 HN HS
              go_wp2_with (go_at_call 42; refine (refWithin_any _ _ _ _).mono ?_; rintro e w' ⟨rfl, rfl⟩)
              · have e1 : inB s.p 0 99999 = false := by assumption
                go_ret
                exact ⟨ret_bool (recB_stays (by rw [staysB, HS.out (by rw [stayB, e1]; rfl), Bool.and_false])).symm, hbw.alloc (by omega) _⟩
              · have e1 : inB s.f 0 100000 = false := by assumption
                go_ret
                exact ⟨ret_bool (recB_stays (by rw [staysB, HS.out (by rw [stayB, daysB, e1, Bool.false_and, Bool.and_false]), Bool.and_false])).symm, hbw.alloc (by omega) _⟩
              · have e1 : (!inB s.t s.f 100000) = true := by assumption
                simp at e1
                go_ret
                exact ⟨ret_bool (recB_stays (by rw [staysB, HS.out (by rw [stayB, daysB, e1, Bool.and_false, Bool.and_false]), Bool.and_false])).symm, hbw.alloc (by omega) _⟩
              · have e1 : inB s.p 0 99999 = true := by assumption
                have e2 : inB s.f 0 100000 = true := by assumption
                have e3 : (!inB s.t s.f 100000) = false := by assumption
                go_roundw
                case rel => exact ⟨k + 1, by omega, by go_num, Lib.hid (HN.out (by simp at e3; rw [stayB, daysB, e1, e2, e3]; rfl)), hbel.alloc (by omega) _⟩
                case measure => simp [intOf]; omega
            · have hall' := all_end stayB r.stays k hlt hall.out
              go_wp2
              go_ret
              exact ⟨ret_bool (by
                have g6 : r.stays.length ≤ 6 := by omega
                rw [recB, g1, hnames.out, hday, Hnb.out, staysB, hall']; simp [g3, g6]), hbw⟩

theorem refRecord_any (A D : Option Addr) (c d : Nat) (r : Rec) (w : World) (h : RecAt w w.heap.size A D r) :
    Calls Tryz.prog 21 #[.agg #[.int .i64 r.id, .slice A r.names.length c, .int .u8 r.suf, .int .i64 r.lo, .int .i64 r.hi, .string r.num, .bool r.twin, .slice D r.stays.length d]] w fun e w' => e = .returned (.bool (recB r)) ∧ Below w.heap.size w w' := by
  cases hday : daysB r.lo r.hi with
  | false => exact refRecord_days A D c d r w h hday
  | true =>
    cases hd : decide ((6 : Int) < (r.stays.length : Int)) with
    | true => exact refRecord_many A D c d r w h hday hd
    | false =>
      cases hnb : numB r.num.data.toList with
      | false => exact refRecord_num A D c d r w h hday hd hnb
      | true => exact refRecord_few A D c d r w h hday hd hnb

end Go.Proofs.YtbkmfomdhjhkpaaGreat
