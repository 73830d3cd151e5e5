/- Codes and homes, by the program: whether they are valid. Written by gent4.py. -/
import Derived.Test.YtkpaikampmeooaaGreatDoorTCardP3

namespace Go.Proofs.YtkpaikampmeooaaGreatDoor
open Go.RowKit Go.Maps

set_option maxHeartbeats 400000 in
theorem withinT_any (n lo hi : Int) (w : World) :
    Calls Tryz.prog 50 #[.int .i64 n, .int .i64 lo, .int .i64 hi] w fun e w' => e = .returned (.bool (inN n lo hi)) ∧ w = w' := by
  go_enter Tryz.func50, Tryz.ntmps50
  go_wp2
  all_goals go_ret
  all_goals refine ⟨ret_bool ?_, rfl⟩
  · have h : lo ≤ n := by assumption
    simp [inN, h]
  · have h : n < lo := by assumption
    have h' : ¬ lo ≤ n := by omega
    simp [inN, h']
set_option maxHeartbeats 400000 in
theorem landValid_any (n : Int) (w : World) :
    Calls Tryz.prog 51 #[.int .i64 n] w fun e w' => e = .returned (.bool (inN n 0 99)) ∧ w = w' := by
  have HW := Lib.hid (withinT_any n 0 99 w)
  go_enter Tryz.func51, Tryz.ntmps51
  go_wp2_with (go_at_call 50; (with_reducible refine (HW.out).mono ?_); rintro e w1 ⟨rfl, rfl⟩)
  go_ret
  exact ⟨rfl, rfl⟩

set_option maxRecDepth 100000 in
set_option maxHeartbeats 2000000 in
theorem lawValid_any (x : LawT) (w : World) (hx : LawWf x) :
    Calls Tryz.prog 69 #[.agg #[.int .i64 x.land, .int .u8 x.kind, .int .u8 x.base, .int .i64 x.keep]] w fun e w' => e = .returned (.bool (lawB1 x)) ∧ Below w.heap.size w w' := by
  obtain ⟨_, ⟨hk1, hk2⟩, hb1, hb2⟩ := hx
  have HW := Lib.hid (fun n lo hi W => withinT_any n lo hi W)
  have HL := Lib.hid (fun n W => landValid_any n W)
  have hws1 : IntKind.i64.wrap x.kind = x.kind := IntWalk.i64_in _ (by omega)
  have hws2 : IntKind.i64.wrap x.base = x.base := IntWalk.i64_in _ (by omega)
  have hb : Below w.heap.size w (w.alloc (.cells #[.int .i64 x.land, .int .u8 x.kind, .int .u8 x.base, .int .i64 x.keep] 79)) := (Below.refl _ _).alloc (Nat.le_refl _) _
  clear hk1 hk2 hb1 hb2
  cases h0 : inN x.land 0 99 with
  | false =>
    go_enter Tryz.func69, Tryz.ntmps69
    go_wp2_with (first
        | (go_at_call 51; (with_reducible refine (HL.out _ _).mono ?_); rintro e w1 ⟨rfl, rfl⟩)
        | (go_at_call 50; (with_reducible refine (HW.out _ _ _ _).mono ?_); rintro e w1 ⟨rfl, rfl⟩))
    all_goals go_ret
    all_goals exact ⟨ret_bool (by simp [lawB1, h0]), hb⟩
  | true =>
    cases h1 : inN x.kind 1 7 with
    | false =>
      go_enter Tryz.func69, Tryz.ntmps69
      go_wp2_with (first
          | (go_at_call 51; (with_reducible refine (HL.out _ _).mono ?_); rintro e w1 ⟨rfl, rfl⟩)
          | (go_at_call 50; (with_reducible refine (HW.out _ _ _ _).mono ?_); rintro e w1 ⟨rfl, rfl⟩))
      all_goals go_ret
      all_goals exact ⟨ret_bool (by simp [lawB1, h0, h1]), hb⟩
    | true =>
      cases h2 : inN x.base 1 3 with
      | false =>
        go_enter Tryz.func69, Tryz.ntmps69
        go_wp2_with (first
            | (go_at_call 51; (with_reducible refine (HL.out _ _).mono ?_); rintro e w1 ⟨rfl, rfl⟩)
            | (go_at_call 50; (with_reducible refine (HW.out _ _ _ _).mono ?_); rintro e w1 ⟨rfl, rfl⟩))
        all_goals go_ret
        all_goals exact ⟨ret_bool (by simp [lawB1, h0, h1, h2]), hb⟩
      | true =>
        go_enter Tryz.func69, Tryz.ntmps69
        go_wp2_with (first
            | (go_at_call 51; (with_reducible refine (HL.out _ _).mono ?_); rintro e w1 ⟨rfl, rfl⟩)
            | (go_at_call 50; (with_reducible refine (HW.out _ _ _ _).mono ?_); rintro e w1 ⟨rfl, rfl⟩))
        all_goals go_ret
        all_goals exact ⟨ret_bool (by simp [lawB1, h0, h1, h2]), hb⟩

set_option maxRecDepth 100000 in
set_option maxHeartbeats 1000000 in
theorem lawLess_any (a b : LawT) (w : World) :
    Calls Tryz.prog 71 #[.agg #[.int .i64 a.land, .int .u8 a.kind, .int .u8 a.base, .int .i64 a.keep], .agg #[.int .i64 b.land, .int .u8 b.kind, .int .u8 b.base, .int .i64 b.keep]] w fun e w' => e = .returned (.bool (lawLt a b)) ∧ Below w.heap.size w w' := by
  have hb : Below w.heap.size w ((w.alloc (.cells #[.int .i64 a.land, .int .u8 a.kind, .int .u8 a.base, .int .i64 a.keep] 79)).alloc (.cells #[.int .i64 b.land, .int .u8 b.kind, .int .u8 b.base, .int .i64 b.keep] 79)) := ((Below.refl _ _).alloc (Nat.le_refl _) _).alloc (by simp) _
  by_cases h1 : a.land < b.land
  · have p1 : decide (a.land < b.land) = true := decide_eq_true h1
    go_enter Tryz.func71, Tryz.ntmps71
    go_wp2_with fail
    all_goals go_ret
    all_goals exact ⟨ret_bool (by simp [lawLt, h1]), hb⟩
  · have p1 : decide (a.land < b.land) = false := decide_eq_false h1
    by_cases h2 : a.land = b.land
    · have p2 : (a.land == b.land) = true := by simp [h2]
      have HE : Hid (lawLt a b = decide (a.kind < b.kind)) := Lib.hid (by unfold lawLt; simp [h2])
      clear h2 h1
      by_cases h3 : a.kind < b.kind
      · have p3 : decide (a.kind < b.kind) = true := decide_eq_true h3
        go_enter Tryz.func71, Tryz.ntmps71
        go_wp2_with fail
        all_goals go_ret
        all_goals exact ⟨by rw [HE.out, p3]; rfl, hb⟩
      · have p3 : decide (a.kind < b.kind) = false := decide_eq_false h3
        go_enter Tryz.func71, Tryz.ntmps71
        go_wp2_with fail
        all_goals go_ret
        all_goals exact ⟨by rw [HE.out, p3]; rfl, hb⟩
    · have p2 : (a.land == b.land) = false := by simpa using h2
      go_enter Tryz.func71, Tryz.ntmps71
      go_wp2_with fail
      all_goals go_ret
      all_goals exact ⟨ret_bool (by simp [lawLt, h1, h2]), hb⟩

set_option maxRecDepth 100000 in
set_option maxHeartbeats 2000000 in
theorem lawOrder_any (l : List LawT) (A : Option Addr) (c : Nat) (w : World) (h : Laws w w.heap.size A l) (hl : l.length ≤ 1000) :
    Calls Tryz.prog 70 #[.slice A l.length c, .func (.func 71) #[] #[]] w fun e w' => e = .returned (.bool (chB lawLt l)) ∧ Below w.heap.size w w' := by
  go_enter Tryz.func70, Tryz.ntmps70
  go_wp2_with fail
  go_loopw [5] (fun ii wr => ∃ i : Nat, i ≤ l.length ∧ ii = .int .i64 ((i : Int) + 1) ∧ Hid ((∀ j, (hj : j + 1 < l.length) → j < i → lawLt (l[j]'(by omega)) l[j + 1] = true) ∧ Below w.heap.size w wr)) (fun ii _ => l.length + 1 - (vInt ii).toNat)
  case atStart => exact ⟨0, Nat.zero_le _, by go_num, Lib.hid ⟨fun j hj h => by omega, Below.refl _ _⟩⟩
  case round =>
    obtain ⟨i, hi, rfl, hR⟩ := hrel
    obtain ⟨hV, hB⟩ := hR.out
    by_cases hlt : i + 1 < l.length
    · have hil : (i : Int) + 1 < (l.length : Int) := by omega
      have hil0 : (i : Int) < (l.length : Int) := by omega
      have h9 := h.later hB
      obtain ⟨b, off, rfl, hb, C⟩ := laws_at h9 (k := i) (by omega)
      obtain ⟨b', off', e0, hb2, C2⟩ := laws_at h9 (k := i + 1) hlt
      cases e0
      have q1 : ((i : Int) + 1).toNat = i + 1 := by omega
      have q2 : IntKind.i64.wrap ((i : Int) + 1 - 1) = (i : Int) := by rw [show (i : Int) + 1 - 1 = i by omega]; exact IntWalk.i64_in _ (by omega)
      have q3 : ((i : Int) + 1 - 1) = (i : Int) := by omega
      have q4 : (0 : Int) ≤ (i : Int) + 1 := by omega
      have d0 := After.cell (B := wr.heap.size) C.c0 hb
      have e0 := After.cell (B := wr.heap.size) C2.c0 hb2
      have d1 := After.cell (B := wr.heap.size) C.c1 hb
      have e1 := After.cell (B := wr.heap.size) C2.c1 hb2
      have d2 := After.cell (B := wr.heap.size) C.c2 hb
      have e2 := After.cell (B := wr.heap.size) C2.c2 hb2
      have d3 := After.cell (B := wr.heap.size) C.c3 hb
      have e3 := After.cell (B := wr.heap.size) C2.c3 hb2
      have HN : Hid (lawLt l[i] l[i + 1] = true → ∀ j, (hj : j + 1 < l.length) → j < i + 1 → lawLt (l[j]'(by omega)) l[j + 1] = true) := Lib.hid (fun he j hj hji => by
        by_cases e : j = i
        · subst e; exact he
        · exact hV j hj (by omega))
      have HF : Hid (lawLt l[i] l[i + 1] = false → chB lawLt l = false) := Lib.hid (fun he => by rw [← Bool.not_eq_true]; intro e; rw [chB_iff.1 e i hlt] at he; cases he)
      have HG := Lib.hid (fun W => lawLess_any l[i] l[i + 1] W)
      clear C C2 h9 hV hR
      cases hq : lawLt l[i] l[i + 1] with
      | false =>
        have GB : Hid (∀ x : After wr.heap.size wr, Calls Tryz.prog 71 #[.agg #[.int .i64 l[i].land, .int .u8 l[i].kind, .int .u8 l[i].base, .int .i64 l[i].keep], .agg #[.int .i64 l[i + 1].land, .int .u8 l[i + 1].kind, .int .u8 l[i + 1].base, .int .i64 l[i + 1].keep]] x.val fun e w' => e = .returned (.bool false) ∧ Below x.val.heap.size x.val w') := Lib.hid (fun x => hq ▸ HG.out x.val)
        have HQ := Lib.hid hq
        clear hq HG
        go_upto_region 4 with fail
        refine wp_region_class_lit (C := fun w' => ∃ z : After wr.heap.size wr, w' = z.val) (by kernel_rfl) (by kernel_rfl) ⟨⟨_, (Below.refl _ _).drew⟩, rfl⟩ ?_
        repeat (go_big_quiet_step ((first
          | (go_at_call 71; with_reducible exact after_of (Nat.le_refl _) _ (GB.out _)))))
        refine wpQuiet_nil ?_
        intro wq hw'
        obtain ⟨⟨wz, hz⟩, hw''⟩ := hw'
        dsimp only at hw''
        subst hw''
        go_wp2_with fail
        go_ret
        exact ⟨by rw [HF.out HQ.out]; rfl, hB.trans (hz.mono hB.size)⟩
      | true =>
        have GB : Hid (∀ x : After wr.heap.size wr, Calls Tryz.prog 71 #[.agg #[.int .i64 l[i].land, .int .u8 l[i].kind, .int .u8 l[i].base, .int .i64 l[i].keep], .agg #[.int .i64 l[i + 1].land, .int .u8 l[i + 1].kind, .int .u8 l[i + 1].base, .int .i64 l[i + 1].keep]] x.val fun e w' => e = .returned (.bool true) ∧ Below x.val.heap.size x.val w') := Lib.hid (fun x => hq ▸ HG.out x.val)
        have HQ := Lib.hid hq
        clear hq HG
        go_upto_region 4 with fail
        refine wp_region_class_lit (C := fun w' => ∃ z : After wr.heap.size wr, w' = z.val) (by kernel_rfl) (by kernel_rfl) ⟨⟨_, (Below.refl _ _).drew⟩, rfl⟩ ?_
        repeat (go_big_quiet_step ((first
          | (go_at_call 71; with_reducible exact after_of (Nat.le_refl _) _ (GB.out _)))))
        refine wpQuiet_nil ?_
        intro wq hw'
        obtain ⟨⟨wz, hz⟩, hw''⟩ := hw'
        dsimp only at hw''
        subst hw''
        have hfin := hB.trans (hz.mono hB.size)
        have HJ := Lib.hid (HN.out HQ.out)
        clear HN HF HQ
        go_wp2_with fail
        go_roundw
        case rel => exact ⟨i + 1, by omega, by go_num, Lib.hid ⟨HJ.out, hfin⟩⟩
        case measure => simp [vInt]; omega
    · have hil : ¬ (i : Int) + 1 < (l.length : Int) := by omega
      have Hv : Hid (chB lawLt l = true) := Lib.hid (chB_iff.2 fun j hj => hV j hj (by omega))
      clear hV hR
      go_wp2_with fail
      go_ret
      exact ⟨by rw [Hv.out]; rfl, hB⟩

set_option maxRecDepth 100000 in
set_option maxHeartbeats 2000000 in
theorem lawsValid_any (l : List LawT) (A : Option Addr) (c : Nat) (w : World) (h : Laws w w.heap.size A l) (hl : l.length ≤ 1000) (hwf : ∀ x ∈ l, LawWf x) :
    Calls Tryz.prog 48 #[.slice A l.length c] w fun e w' => e = .returned (.bool (lawsB l)) ∧ Below w.heap.size w w' := by
  by_cases h60 : 40 < l.length
  · have hi : (40 : Int) < (l.length : Int) := by omega
    have Hv : Hid (lawsB l = false) := Lib.hid (by unfold lawsB; rw [decide_eq_false (by omega)]; rfl)
    clear h
    go_enter Tryz.func48, Tryz.ntmps48
    go_wp2_with fail
    go_ret
    exact ⟨by rw [Hv.out]; rfl, Below.refl _ _⟩
  · have hi : ¬ (40 : Int) < (l.length : Int) := by omega
    have HB : Hid (lawsB l = (l.all lawB1 && chB lawLt l)) := Lib.hid (by unfold lawsB; rw [decide_eq_true (by omega : l.length ≤ 40), Bool.true_and])
    have HO := Lib.hid (fun W (hb : Below w.heap.size w W) => lawOrder_any l A c W (h.later hb) hl)
    have HLv := Lib.hid (fun x (hx : x ∈ l) W => lawValid_any x W (hwf x hx))
    have HW := Lib.hid (fun n lo hi W => withinT_any n lo hi W)
    have HL := Lib.hid (fun n W => landValid_any n W)
    go_enter Tryz.func48, Tryz.ntmps48
    go_wp2_with fail
    go_loopw [10] (fun ii wr => ∃ i : Nat, i ≤ l.length ∧ ii = .int .i64 i ∧ Hid ((∀ j, (hj : j < l.length) → j < i → lawB1 l[j] = true) ∧ Below w.heap.size w wr)) (fun ii _ => l.length - (vInt ii).toNat)
    case atStart => exact ⟨0, Nat.zero_le _, rfl, Lib.hid ⟨fun j hj h => by omega, Below.refl _ _⟩⟩
    case round =>
      obtain ⟨i, hi2, rfl, hR⟩ := hrel
      obtain ⟨hV, hB⟩ := hR.out
      by_cases hlt : i < l.length
      · have hil : (i : Int) < (l.length : Int) := by omega
        have h9 := h.later hB
        obtain ⟨b, off, rfl, hb, C⟩ := laws_at h9 hlt
        obtain ⟨c0, c1, c2, c3⟩ := C
        have bx := hB.alloc hB.size (.cells #[.int .i64 l[i].land, .int .u8 l[i].kind, .int .u8 l[i].base, .int .i64 l[i].keep] 79)
        have HN : Hid (lawB1 l[i] = true → ∀ j, (hj : j < l.length) → j < i + 1 → lawB1 l[j] = true) := Lib.hid (fun he j hj hji => by
          by_cases e : j = i
          · subst e; exact he
          · exact hV j hj (by omega))
        have HF : Hid (lawB1 l[i] = false → lawsB l = false) := Lib.hid (fun he => by rw [HB.out, List.all_eq_false.2 ⟨l[i], List.getElem_mem hlt, by rw [he]; decide⟩]; rfl)
        have HC := Lib.hid (HLv.out l[i] (List.getElem_mem hlt))
        clear hV hR h9 HLv
        cases hq : lawB1 l[i] with
        | false =>
          as_aux_lemma =>
          rw [hq] at HC
          have Hv := Lib.hid (HF.out hq)
          clear HF HN HB HO hq
          go_wp2_with (go_at_call 69; (with_reducible refine (HC.out _).mono ?_); rintro e w2 ⟨rfl, h2⟩)
          go_ret
          exact ⟨by rw [Hv.out]; rfl, bx.trans (h2.mono bx.size)⟩
        | true =>
          as_aux_lemma =>
          rw [hq] at HC
          have HJ := Lib.hid (HN.out hq)
          clear HF HN HB HO hq
          go_wp2_with (go_at_call 69; (with_reducible refine (HC.out _).mono ?_); rintro e w2 ⟨rfl, h2⟩)
          have hfin := bx.trans (h2.mono bx.size)
          go_roundw
          case rel => exact ⟨i + 1, by omega, by go_num, Lib.hid ⟨HJ.out, hfin⟩⟩
          case measure => simp [vInt]; omega
      · have hil : ¬ (i : Int) < (l.length : Int) := by omega
        have HC := Lib.hid (HO.out wr hB)
        have Hv : Hid (lawsB l = chB lawLt l) := Lib.hid (by rw [HB.out, List.all_eq_true.2 fun x hx => by
          obtain ⟨j, hj, rfl⟩ := List.getElem_of_mem hx
          exact hV j hj (by omega), Bool.true_and])
        clear hV hR HO HB
        go_wp2_with (go_at_call 70; (with_reducible refine (HC.out).mono ?_); rintro e w2 ⟨rfl, h2⟩)
        go_ret
        exact ⟨by rw [Hv.out]; rfl, hB.trans (h2.mono hB.size)⟩

set_option maxRecDepth 100000 in
set_option maxHeartbeats 1000000 in
theorem stillLess_any (a b : StillT) (w : World) :
    Calls Tryz.prog 73 #[.agg #[.int .i64 a.land, .int .i64 a.days, .int .u8 a.means], .agg #[.int .i64 b.land, .int .i64 b.days, .int .u8 b.means]] w fun e w' => e = .returned (.bool (stillLt a b)) ∧ Below w.heap.size w w' := by
  have hb : Below w.heap.size w ((w.alloc (.cells #[.int .i64 a.land, .int .i64 a.days, .int .u8 a.means] 81)).alloc (.cells #[.int .i64 b.land, .int .i64 b.days, .int .u8 b.means] 81)) := ((Below.refl _ _).alloc (Nat.le_refl _) _).alloc (by simp) _
  by_cases h1 : a.land < b.land
  · have p1 : decide (a.land < b.land) = true := decide_eq_true h1
    go_enter Tryz.func73, Tryz.ntmps73
    go_wp2_with fail
    all_goals go_ret
    all_goals exact ⟨ret_bool (by simp [stillLt, h1]), hb⟩
  · have p1 : decide (a.land < b.land) = false := decide_eq_false h1
    go_enter Tryz.func73, Tryz.ntmps73
    go_wp2_with fail
    all_goals go_ret
    all_goals exact ⟨ret_bool (by simp [stillLt, h1]), hb⟩

set_option maxRecDepth 100000 in
set_option maxHeartbeats 2000000 in
theorem stillOrder_any (l : List StillT) (A : Option Addr) (c : Nat) (w : World) (h : Stills w w.heap.size A l) (hl : l.length ≤ 1000) :
    Calls Tryz.prog 72 #[.slice A l.length c, .func (.func 73) #[] #[]] w fun e w' => e = .returned (.bool (chB stillLt l)) ∧ Below w.heap.size w w' := by
  go_enter Tryz.func72, Tryz.ntmps72
  go_wp2_with fail
  go_loopw [5] (fun ii wr => ∃ i : Nat, i ≤ l.length ∧ ii = .int .i64 ((i : Int) + 1) ∧ Hid ((∀ j, (hj : j + 1 < l.length) → j < i → stillLt (l[j]'(by omega)) l[j + 1] = true) ∧ Below w.heap.size w wr)) (fun ii _ => l.length + 1 - (vInt ii).toNat)
  case atStart => exact ⟨0, Nat.zero_le _, by go_num, Lib.hid ⟨fun j hj h => by omega, Below.refl _ _⟩⟩
  case round =>
    obtain ⟨i, hi, rfl, hR⟩ := hrel
    obtain ⟨hV, hB⟩ := hR.out
    by_cases hlt : i + 1 < l.length
    · have hil : (i : Int) + 1 < (l.length : Int) := by omega
      have hil0 : (i : Int) < (l.length : Int) := by omega
      have h9 := h.later hB
      obtain ⟨b, off, rfl, hb, C⟩ := stills_at h9 (k := i) (by omega)
      obtain ⟨b', off', e0, hb2, C2⟩ := stills_at h9 (k := i + 1) hlt
      cases e0
      have q1 : ((i : Int) + 1).toNat = i + 1 := by omega
      have q2 : IntKind.i64.wrap ((i : Int) + 1 - 1) = (i : Int) := by rw [show (i : Int) + 1 - 1 = i by omega]; exact IntWalk.i64_in _ (by omega)
      have q3 : ((i : Int) + 1 - 1) = (i : Int) := by omega
      have q4 : (0 : Int) ≤ (i : Int) + 1 := by omega
      have d0 := After.cell (B := wr.heap.size) C.c0 hb
      have e0 := After.cell (B := wr.heap.size) C2.c0 hb2
      have d1 := After.cell (B := wr.heap.size) C.c1 hb
      have e1 := After.cell (B := wr.heap.size) C2.c1 hb2
      have d2 := After.cell (B := wr.heap.size) C.c2 hb
      have e2 := After.cell (B := wr.heap.size) C2.c2 hb2
      have HN : Hid (stillLt l[i] l[i + 1] = true → ∀ j, (hj : j + 1 < l.length) → j < i + 1 → stillLt (l[j]'(by omega)) l[j + 1] = true) := Lib.hid (fun he j hj hji => by
        by_cases e : j = i
        · subst e; exact he
        · exact hV j hj (by omega))
      have HF : Hid (stillLt l[i] l[i + 1] = false → chB stillLt l = false) := Lib.hid (fun he => by rw [← Bool.not_eq_true]; intro e; rw [chB_iff.1 e i hlt] at he; cases he)
      have HG := Lib.hid (fun W => stillLess_any l[i] l[i + 1] W)
      clear C C2 h9 hV hR
      cases hq : stillLt l[i] l[i + 1] with
      | false =>
        have GB : Hid (∀ x : After wr.heap.size wr, Calls Tryz.prog 73 #[.agg #[.int .i64 l[i].land, .int .i64 l[i].days, .int .u8 l[i].means], .agg #[.int .i64 l[i + 1].land, .int .i64 l[i + 1].days, .int .u8 l[i + 1].means]] x.val fun e w' => e = .returned (.bool false) ∧ Below x.val.heap.size x.val w') := Lib.hid (fun x => hq ▸ HG.out x.val)
        have HQ := Lib.hid hq
        clear hq HG
        go_upto_region 4 with fail
        refine wp_region_class_lit (C := fun w' => ∃ z : After wr.heap.size wr, w' = z.val) (by kernel_rfl) (by kernel_rfl) ⟨⟨_, (Below.refl _ _).drew⟩, rfl⟩ ?_
        repeat (go_big_quiet_step ((first
          | (go_at_call 73; with_reducible exact after_of (Nat.le_refl _) _ (GB.out _)))))
        refine wpQuiet_nil ?_
        intro wq hw'
        obtain ⟨⟨wz, hz⟩, hw''⟩ := hw'
        dsimp only at hw''
        subst hw''
        go_wp2_with fail
        go_ret
        exact ⟨by rw [HF.out HQ.out]; rfl, hB.trans (hz.mono hB.size)⟩
      | true =>
        have GB : Hid (∀ x : After wr.heap.size wr, Calls Tryz.prog 73 #[.agg #[.int .i64 l[i].land, .int .i64 l[i].days, .int .u8 l[i].means], .agg #[.int .i64 l[i + 1].land, .int .i64 l[i + 1].days, .int .u8 l[i + 1].means]] x.val fun e w' => e = .returned (.bool true) ∧ Below x.val.heap.size x.val w') := Lib.hid (fun x => hq ▸ HG.out x.val)
        have HQ := Lib.hid hq
        clear hq HG
        go_upto_region 4 with fail
        refine wp_region_class_lit (C := fun w' => ∃ z : After wr.heap.size wr, w' = z.val) (by kernel_rfl) (by kernel_rfl) ⟨⟨_, (Below.refl _ _).drew⟩, rfl⟩ ?_
        repeat (go_big_quiet_step ((first
          | (go_at_call 73; with_reducible exact after_of (Nat.le_refl _) _ (GB.out _)))))
        refine wpQuiet_nil ?_
        intro wq hw'
        obtain ⟨⟨wz, hz⟩, hw''⟩ := hw'
        dsimp only at hw''
        subst hw''
        have hfin := hB.trans (hz.mono hB.size)
        have HJ := Lib.hid (HN.out HQ.out)
        clear HN HF HQ
        go_wp2_with fail
        go_roundw
        case rel => exact ⟨i + 1, by omega, by go_num, Lib.hid ⟨HJ.out, hfin⟩⟩
        case measure => simp [vInt]; omega
    · have hil : ¬ (i : Int) + 1 < (l.length : Int) := by omega
      have Hv : Hid (chB stillLt l = true) := Lib.hid (chB_iff.2 fun j hj => hV j hj (by omega))
      clear hV hR
      go_wp2_with fail
      go_ret
      exact ⟨by rw [Hv.out]; rfl, hB⟩

set_option maxRecDepth 100000 in
set_option maxHeartbeats 2000000 in
theorem stillsValid_any (l : List StillT) (A : Option Addr) (c : Nat) (w : World) (h : Stills w w.heap.size A l) (hl : l.length ≤ 1000) :
    Calls Tryz.prog 49 #[.slice A l.length c] w fun e w' => e = .returned (.bool (stillsB l)) ∧ Below w.heap.size w w' := by
  by_cases h60 : 20 < l.length
  · have hi : (20 : Int) < (l.length : Int) := by omega
    have Hv : Hid (stillsB l = false) := Lib.hid (by unfold stillsB; rw [decide_eq_false (by omega)]; rfl)
    clear h
    go_enter Tryz.func49, Tryz.ntmps49
    go_wp2_with fail
    go_ret
    exact ⟨by rw [Hv.out]; rfl, Below.refl _ _⟩
  · have hi : ¬ (20 : Int) < (l.length : Int) := by omega
    have HB : Hid (stillsB l = (l.all stillB1 && chB stillLt l)) := Lib.hid (by unfold stillsB; rw [decide_eq_true (by omega : l.length ≤ 20), Bool.true_and])
    have HO := Lib.hid (fun W (hb : Below w.heap.size w W) => stillOrder_any l A c W (h.later hb) hl)
    skip
    have HW := Lib.hid (fun n lo hi W => withinT_any n lo hi W)
    have HL := Lib.hid (fun n W => landValid_any n W)
    go_enter Tryz.func49, Tryz.ntmps49
    go_wp2_with fail
    go_loopw [10] (fun ii wr => ∃ i : Nat, i ≤ l.length ∧ ii = .int .i64 i ∧ Hid ((∀ j, (hj : j < l.length) → j < i → stillB1 l[j] = true) ∧ Below w.heap.size w wr)) (fun ii _ => l.length - (vInt ii).toNat)
    case atStart => exact ⟨0, Nat.zero_le _, rfl, Lib.hid ⟨fun j hj h => by omega, Below.refl _ _⟩⟩
    case round =>
      obtain ⟨i, hi2, rfl, hR⟩ := hrel
      obtain ⟨hV, hB⟩ := hR.out
      by_cases hlt : i < l.length
      · have hil : (i : Int) < (l.length : Int) := by omega
        have h9 := h.later hB
        obtain ⟨b, off, rfl, hb, C⟩ := stills_at h9 hlt
        obtain ⟨c0, c1, c2⟩ := C
        have bx := hB.alloc hB.size (.cells #[.int .i64 l[i].land, .int .i64 l[i].days, .int .u8 l[i].means] 81)
        have HN : Hid (stillB1 l[i] = true → ∀ j, (hj : j < l.length) → j < i + 1 → stillB1 l[j] = true) := Lib.hid (fun he j hj hji => by
          by_cases e : j = i
          · subst e; exact he
          · exact hV j hj (by omega))
        have HF : Hid (stillB1 l[i] = false → stillsB l = false) := Lib.hid (fun he => by rw [HB.out, List.all_eq_false.2 ⟨l[i], List.getElem_mem hlt, by rw [he]; decide⟩]; rfl)
        clear hV hR h9
        cases h0 : inN l[i].land 0 99 with
        | false =>
          as_aux_lemma =>
          have Hv := Lib.hid (HF.out (by simp [stillB1, h0]))
          clear HF HN HB HO
          go_wp2_with (first
              | (go_at_call 51; (with_reducible refine (HL.out _ _).mono ?_); rintro e w1 ⟨rfl, rfl⟩)
              | (go_at_call 50; (with_reducible refine (HW.out _ _ _ _).mono ?_); rintro e w1 ⟨rfl, rfl⟩))
          go_ret
          exact ⟨by rw [Hv.out]; rfl, bx⟩
        | true =>
          cases h1 : inN l[i].days 1 100000 with
          | false =>
            as_aux_lemma =>
            have Hv := Lib.hid (HF.out (by simp [stillB1, h0, h1]))
            clear HF HN HB HO
            go_wp2_with (first
                | (go_at_call 51; (with_reducible refine (HL.out _ _).mono ?_); rintro e w1 ⟨rfl, rfl⟩)
                | (go_at_call 50; (with_reducible refine (HW.out _ _ _ _).mono ?_); rintro e w1 ⟨rfl, rfl⟩))
            go_ret
            exact ⟨by rw [Hv.out]; rfl, bx⟩
          | true =>
            by_cases hm : 2 < l[i].means
            · have em : decide (2 < l[i].means) = true := decide_eq_true hm
              as_aux_lemma =>
              have Hv := Lib.hid (HF.out (by unfold stillB1; rw [decide_eq_false (by omega : ¬ l[i].means ≤ 2), Bool.and_false]))
              clear HF HN HB HO hm
              go_wp2_with (first
                  | (go_at_call 51; (with_reducible refine (HL.out _ _).mono ?_); rintro e w1 ⟨rfl, rfl⟩)
                  | (go_at_call 50; (with_reducible refine (HW.out _ _ _ _).mono ?_); rintro e w1 ⟨rfl, rfl⟩))
              go_ret
              exact ⟨by rw [Hv.out]; rfl, bx⟩
            have em : decide (2 < l[i].means) = false := decide_eq_false hm
            have HJ := Lib.hid (HN.out (by unfold stillB1; rw [h0, h1, decide_eq_true (by omega : l[i].means ≤ 2)]; rfl))
            clear HF HN HB HO hm
            go_wp2_with (first
                | (go_at_call 51; (with_reducible refine (HL.out _ _).mono ?_); rintro e w1 ⟨rfl, rfl⟩)
                | (go_at_call 50; (with_reducible refine (HW.out _ _ _ _).mono ?_); rintro e w1 ⟨rfl, rfl⟩))
            go_roundw
            case rel => exact ⟨i + 1, by omega, by go_num, Lib.hid ⟨HJ.out, bx⟩⟩
            case measure => simp [vInt]; omega
      · have hil : ¬ (i : Int) < (l.length : Int) := by omega
        have HC := Lib.hid (HO.out wr hB)
        have Hv : Hid (stillsB l = chB stillLt l) := Lib.hid (by rw [HB.out, List.all_eq_true.2 fun x hx => by
          obtain ⟨j, hj, rfl⟩ := List.getElem_of_mem hx
          exact hV j hj (by omega), Bool.true_and])
        clear hV hR HO HB
        go_wp2_with (go_at_call 72; (with_reducible refine (HC.out).mono ?_); rintro e w2 ⟨rfl, h2⟩)
        go_ret
        exact ⟨by rw [Hv.out]; rfl, hB.trans (h2.mono hB.size)⟩

set_option maxRecDepth 100000 in
set_option maxHeartbeats 1000000 in
theorem homeLess_any (a b : HomeT) (w : World) :
    Calls Tryz.prog 53 #[.agg #[.int .i64 a.acc, .int .i64 a.land], .agg #[.int .i64 b.acc, .int .i64 b.land]] w fun e w' => e = .returned (.bool (homeLt a b)) ∧ Below w.heap.size w w' := by
  have hb : Below w.heap.size w ((w.alloc (.cells #[.int .i64 a.acc, .int .i64 a.land] 83)).alloc (.cells #[.int .i64 b.acc, .int .i64 b.land] 83)) := ((Below.refl _ _).alloc (Nat.le_refl _) _).alloc (by simp) _
  by_cases h1 : a.acc < b.acc
  · have p1 : decide (a.acc < b.acc) = true := decide_eq_true h1
    go_enter Tryz.func53, Tryz.ntmps53
    go_wp2_with fail
    all_goals go_ret
    all_goals exact ⟨ret_bool (by simp [homeLt, h1]), hb⟩
  · have p1 : decide (a.acc < b.acc) = false := decide_eq_false h1
    go_enter Tryz.func53, Tryz.ntmps53
    go_wp2_with fail
    all_goals go_ret
    all_goals exact ⟨ret_bool (by simp [homeLt, h1]), hb⟩

set_option maxRecDepth 100000 in
set_option maxHeartbeats 2000000 in
theorem homeOrder_any (l : List HomeT) (A : Option Addr) (c : Nat) (w : World) (h : HomesAt w w.heap.size A l) (hl : l.length ≤ 1000) :
    Calls Tryz.prog 52 #[.slice A l.length c, .func (.func 53) #[] #[]] w fun e w' => e = .returned (.bool (chB homeLt l)) ∧ Below w.heap.size w w' := by
  go_enter Tryz.func52, Tryz.ntmps52
  go_wp2_with fail
  go_loopw [5] (fun ii wr => ∃ i : Nat, i ≤ l.length ∧ ii = .int .i64 ((i : Int) + 1) ∧ Hid ((∀ j, (hj : j + 1 < l.length) → j < i → homeLt (l[j]'(by omega)) l[j + 1] = true) ∧ Below w.heap.size w wr)) (fun ii _ => l.length + 1 - (vInt ii).toNat)
  case atStart => exact ⟨0, Nat.zero_le _, by go_num, Lib.hid ⟨fun j hj h => by omega, Below.refl _ _⟩⟩
  case round =>
    obtain ⟨i, hi, rfl, hR⟩ := hrel
    obtain ⟨hV, hB⟩ := hR.out
    by_cases hlt : i + 1 < l.length
    · have hil : (i : Int) + 1 < (l.length : Int) := by omega
      have hil0 : (i : Int) < (l.length : Int) := by omega
      have h9 := h.later hB
      obtain ⟨b, off, rfl, hb, C⟩ := homes_at h9 (k := i) (by omega)
      obtain ⟨b', off', e0, hb2, C2⟩ := homes_at h9 (k := i + 1) hlt
      cases e0
      have q1 : ((i : Int) + 1).toNat = i + 1 := by omega
      have q2 : IntKind.i64.wrap ((i : Int) + 1 - 1) = (i : Int) := by rw [show (i : Int) + 1 - 1 = i by omega]; exact IntWalk.i64_in _ (by omega)
      have q3 : ((i : Int) + 1 - 1) = (i : Int) := by omega
      have q4 : (0 : Int) ≤ (i : Int) + 1 := by omega
      have d0 := After.cell (B := wr.heap.size) C.c0 hb
      have e0 := After.cell (B := wr.heap.size) C2.c0 hb2
      have d1 := After.cell (B := wr.heap.size) C.c1 hb
      have e1 := After.cell (B := wr.heap.size) C2.c1 hb2
      have HN : Hid (homeLt l[i] l[i + 1] = true → ∀ j, (hj : j + 1 < l.length) → j < i + 1 → homeLt (l[j]'(by omega)) l[j + 1] = true) := Lib.hid (fun he j hj hji => by
        by_cases e : j = i
        · subst e; exact he
        · exact hV j hj (by omega))
      have HF : Hid (homeLt l[i] l[i + 1] = false → chB homeLt l = false) := Lib.hid (fun he => by rw [← Bool.not_eq_true]; intro e; rw [chB_iff.1 e i hlt] at he; cases he)
      have HG := Lib.hid (fun W => homeLess_any l[i] l[i + 1] W)
      clear C C2 h9 hV hR
      cases hq : homeLt l[i] l[i + 1] with
      | false =>
        have GB : Hid (∀ x : After wr.heap.size wr, Calls Tryz.prog 53 #[.agg #[.int .i64 l[i].acc, .int .i64 l[i].land], .agg #[.int .i64 l[i + 1].acc, .int .i64 l[i + 1].land]] x.val fun e w' => e = .returned (.bool false) ∧ Below x.val.heap.size x.val w') := Lib.hid (fun x => hq ▸ HG.out x.val)
        have HQ := Lib.hid hq
        clear hq HG
        go_upto_region 4 with fail
        refine wp_region_class_lit (C := fun w' => ∃ z : After wr.heap.size wr, w' = z.val) (by kernel_rfl) (by kernel_rfl) ⟨⟨_, (Below.refl _ _).drew⟩, rfl⟩ ?_
        repeat (go_big_quiet_step ((first
          | (go_at_call 53; with_reducible exact after_of (Nat.le_refl _) _ (GB.out _)))))
        refine wpQuiet_nil ?_
        intro wq hw'
        obtain ⟨⟨wz, hz⟩, hw''⟩ := hw'
        dsimp only at hw''
        subst hw''
        go_wp2_with fail
        go_ret
        exact ⟨by rw [HF.out HQ.out]; rfl, hB.trans (hz.mono hB.size)⟩
      | true =>
        have GB : Hid (∀ x : After wr.heap.size wr, Calls Tryz.prog 53 #[.agg #[.int .i64 l[i].acc, .int .i64 l[i].land], .agg #[.int .i64 l[i + 1].acc, .int .i64 l[i + 1].land]] x.val fun e w' => e = .returned (.bool true) ∧ Below x.val.heap.size x.val w') := Lib.hid (fun x => hq ▸ HG.out x.val)
        have HQ := Lib.hid hq
        clear hq HG
        go_upto_region 4 with fail
        refine wp_region_class_lit (C := fun w' => ∃ z : After wr.heap.size wr, w' = z.val) (by kernel_rfl) (by kernel_rfl) ⟨⟨_, (Below.refl _ _).drew⟩, rfl⟩ ?_
        repeat (go_big_quiet_step ((first
          | (go_at_call 53; with_reducible exact after_of (Nat.le_refl _) _ (GB.out _)))))
        refine wpQuiet_nil ?_
        intro wq hw'
        obtain ⟨⟨wz, hz⟩, hw''⟩ := hw'
        dsimp only at hw''
        subst hw''
        have hfin := hB.trans (hz.mono hB.size)
        have HJ := Lib.hid (HN.out HQ.out)
        clear HN HF HQ
        go_wp2_with fail
        go_roundw
        case rel => exact ⟨i + 1, by omega, by go_num, Lib.hid ⟨HJ.out, hfin⟩⟩
        case measure => simp [vInt]; omega
    · have hil : ¬ (i : Int) + 1 < (l.length : Int) := by omega
      have Hv : Hid (chB homeLt l = true) := Lib.hid (chB_iff.2 fun j hj => hV j hj (by omega))
      clear hV hR
      go_wp2_with fail
      go_ret
      exact ⟨by rw [Hv.out]; rfl, hB⟩

set_option maxRecDepth 100000 in
set_option maxHeartbeats 2000000 in
theorem homesValid_any (l : List HomeT) (A : Option Addr) (c : Nat) (w : World) (h : HomesAt w w.heap.size A l) (hl : l.length ≤ 1000) :
    Calls Tryz.prog 30 #[.slice A l.length c] w fun e w' => e = .returned (.bool (homesB l)) ∧ Below w.heap.size w w' := by
  by_cases h60 : 60 < l.length
  · have hi : (60 : Int) < (l.length : Int) := by omega
    have Hv : Hid (homesB l = false) := Lib.hid (by unfold homesB; rw [decide_eq_false (by omega)]; rfl)
    clear h
    go_enter Tryz.func30, Tryz.ntmps30
    go_wp2_with fail
    go_ret
    exact ⟨by rw [Hv.out]; rfl, Below.refl _ _⟩
  · have hi : ¬ (60 : Int) < (l.length : Int) := by omega
    have HB : Hid (homesB l = (l.all homeB1 && chB homeLt l)) := Lib.hid (by unfold homesB; rw [decide_eq_true (by omega : l.length ≤ 60), Bool.true_and])
    have HO := Lib.hid (fun W (hb : Below w.heap.size w W) => homeOrder_any l A c W (h.later hb) hl)
    skip
    have HW := Lib.hid (fun n lo hi W => withinT_any n lo hi W)
    have HL := Lib.hid (fun n W => landValid_any n W)
    go_enter Tryz.func30, Tryz.ntmps30
    go_wp2_with fail
    go_loopw [10] (fun ii wr => ∃ i : Nat, i ≤ l.length ∧ ii = .int .i64 i ∧ Hid ((∀ j, (hj : j < l.length) → j < i → homeB1 l[j] = true) ∧ Below w.heap.size w wr)) (fun ii _ => l.length - (vInt ii).toNat)
    case atStart => exact ⟨0, Nat.zero_le _, rfl, Lib.hid ⟨fun j hj h => by omega, Below.refl _ _⟩⟩
    case round =>
      obtain ⟨i, hi2, rfl, hR⟩ := hrel
      obtain ⟨hV, hB⟩ := hR.out
      by_cases hlt : i < l.length
      · have hil : (i : Int) < (l.length : Int) := by omega
        have h9 := h.later hB
        obtain ⟨b, off, rfl, hb, C⟩ := homes_at h9 hlt
        obtain ⟨c0, c1⟩ := C
        have bx := hB.alloc hB.size (.cells #[.int .i64 l[i].acc, .int .i64 l[i].land] 83)
        have HN : Hid (homeB1 l[i] = true → ∀ j, (hj : j < l.length) → j < i + 1 → homeB1 l[j] = true) := Lib.hid (fun he j hj hji => by
          by_cases e : j = i
          · subst e; exact he
          · exact hV j hj (by omega))
        have HF : Hid (homeB1 l[i] = false → homesB l = false) := Lib.hid (fun he => by rw [HB.out, List.all_eq_false.2 ⟨l[i], List.getElem_mem hlt, by rw [he]; decide⟩]; rfl)
        clear hV hR h9
        cases h0 : inN l[i].acc 0 999999 with
        | false =>
          as_aux_lemma =>
          have Hv := Lib.hid (HF.out (by simp [homeB1, h0]))
          clear HF HN HB HO
          go_wp2_with (first
              | (go_at_call 51; (with_reducible refine (HL.out _ _).mono ?_); rintro e w1 ⟨rfl, rfl⟩)
              | (go_at_call 50; (with_reducible refine (HW.out _ _ _ _).mono ?_); rintro e w1 ⟨rfl, rfl⟩))
          go_ret
          exact ⟨by rw [Hv.out]; rfl, bx⟩
        | true =>
          cases h1 : inN l[i].land 0 99 with
          | false =>
            as_aux_lemma =>
            have Hv := Lib.hid (HF.out (by simp [homeB1, h0, h1]))
            clear HF HN HB HO
            go_wp2_with (first
                | (go_at_call 51; (with_reducible refine (HL.out _ _).mono ?_); rintro e w1 ⟨rfl, rfl⟩)
                | (go_at_call 50; (with_reducible refine (HW.out _ _ _ _).mono ?_); rintro e w1 ⟨rfl, rfl⟩))
            go_ret
            exact ⟨by rw [Hv.out]; rfl, bx⟩
          | true =>
            have HJ := Lib.hid (HN.out (by simp [homeB1, h0, h1]))
            clear HF HN HB HO
            go_wp2_with (first
                | (go_at_call 51; (with_reducible refine (HL.out _ _).mono ?_); rintro e w1 ⟨rfl, rfl⟩)
                | (go_at_call 50; (with_reducible refine (HW.out _ _ _ _).mono ?_); rintro e w1 ⟨rfl, rfl⟩))
            go_roundw
            case rel => exact ⟨i + 1, by omega, by go_num, Lib.hid ⟨HJ.out, bx⟩⟩
            case measure => simp [vInt]; omega
      · have hil : ¬ (i : Int) < (l.length : Int) := by omega
        have HC := Lib.hid (HO.out wr hB)
        have Hv : Hid (homesB l = chB homeLt l) := Lib.hid (by rw [HB.out, List.all_eq_true.2 fun x hx => by
          obtain ⟨j, hj, rfl⟩ := List.getElem_of_mem hx
          exact hV j hj (by omega), Bool.true_and])
        clear hV hR HO HB
        go_wp2_with (go_at_call 52; (with_reducible refine (HC.out).mono ?_); rintro e w2 ⟨rfl, h2⟩)
        go_ret
        exact ⟨by rw [Hv.out]; rfl, hB.trans (h2.mono hB.size)⟩

end Go.Proofs.YtkpaikampmeooaaGreatDoor
