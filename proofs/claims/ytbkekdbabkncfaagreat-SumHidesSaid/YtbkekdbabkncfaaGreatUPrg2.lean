/- Whether a question is valid, by the program. Written by p2.py. -/
import Derived.Test.YtbkekdbabkncfaaGreatUPrg1

namespace Go.Proofs.YtbkekdbabkncfaaGreat
open Go.RowKit Go.Maps

set_option maxHeartbeats 400000 in
theorem columnU_any (n columns : Int) (hc : -1000 ≤ columns ∧ columns ≤ 1000) (w : World) :
    Calls Tryz.prog 121 #[.int .i64 n, .int .i64 columns] w fun e w' => e = .returned (.bool (inN n 0 (columns - 1))) ∧ w = w' := by
  have hw : IntKind.i64.wrap (columns - 1) = columns - 1 := IntWalk.i64_in _ (by omega)
  have H := Lib.hid (withinU_any n 0 (columns - 1) w)
  obtain ⟨hc1, hc2⟩ := hc
  generalize inN n 0 (columns - 1) = p at *
  go_enter Tryz.func121, Tryz.ntmps121
  go_wp2_with (go_at_call 78; (with_reducible refine (H.out).mono ?_); rintro e w1 ⟨rfl, rfl⟩)
  go_ret
  exact ⟨rfl, rfl⟩
set_option maxRecDepth 100000 in
set_option maxHeartbeats 4000000 in
theorem whereU_any (columns col lo hi : Int) (hc : -1000 ≤ columns ∧ columns ≤ 1000) (w : World) :
    Calls Tryz.prog 90 #[.int .i64 columns, .agg #[.int .i64 col, .int .i64 lo, .int .i64 hi]] w fun e w' => e = .returned (.bool (wheB columns ⟨col, lo, hi⟩)) ∧ Below w.heap.size w w' := by
  have b1 := (Below.refl w.heap.size w).alloc (Nat.le_refl _) (.cells #[.int .i64 col, .int .i64 lo, .int .i64 hi] 68)
  have k1c := (Blk.new w #[.int .i64 col, .int .i64 lo, .int .i64 hi] 68).cell
  have HA := Lib.hid (fun W => columnU_any col columns hc W)
  have HL := Lib.hid (fun W => valueU_any lo W)
  have HH := Lib.hid (fun W => valueU_any hi W)
  have hE : wheB columns ⟨col, lo, hi⟩ = (inN col 0 (columns - 1) && valV lo && valV hi) := rfl
  rw [hE]
  clear hE hc
  generalize inN col 0 (columns - 1) = p1 at *
  generalize valV lo = p2 at *
  generalize valV hi = p3 at *
  cases p1 with
  | false =>
    go_enter Tryz.func90, Tryz.ntmps90
    go_wp2_with (go_at_call 121; (with_reducible refine (HA.out _).mono ?_); rintro e w1 ⟨rfl, rfl⟩)
    go_ret
    exact ⟨rfl, b1⟩
  | true =>
    cases p2 with
    | false =>
      go_enter Tryz.func90, Tryz.ntmps90
      go_wp2_with (first
        | (go_at_call 121; (with_reducible refine (HA.out _).mono ?_); rintro e w1 ⟨rfl, rfl⟩)
        | (go_at_call 113; (with_reducible refine (HL.out _).mono ?_); rintro e w1 ⟨rfl, rfl⟩))
      go_ret
      exact ⟨rfl, b1⟩
    | true =>
      go_enter Tryz.func90, Tryz.ntmps90
      go_wp2_with (first
        | (go_at_call 121; (with_reducible refine (HA.out _).mono ?_); rintro e w1 ⟨rfl, rfl⟩)
        | (go_at_call 113; (with_reducible refine (HL.out _).mono ?_); rintro e w1 ⟨rfl, rfl⟩)
        | (go_at_call 113; (with_reducible refine (HH.out _).mono ?_); rintro e w1 ⟨rfl, rfl⟩))
      go_ret
      exact ⟨ret_bool (by simp), b1⟩
set_option maxRecDepth 100000 in
set_option maxHeartbeats 4000000 in
theorem countU_any (columns : Int) (W : Option Addr) (wl wc : Nat) (col clip step : Int) (hc : -1000 ≤ columns ∧ columns ≤ 1000) (w : World) :
    Calls Tryz.prog 92 #[.int .i64 columns, .agg #[.slice W wl wc, .int .i64 col, .int .i64 clip, .int .i64 step]] w fun e w' => e = .returned (.bool (if col = -1 then decide (clip = 1) else inN col 0 (columns - 1) && inN clip 1 1000000)) ∧ Below w.heap.size w w' := by
  have b1 := (Below.refl w.heap.size w).alloc (Nat.le_refl _) (.cells #[.slice W wl wc, .int .i64 col, .int .i64 clip, .int .i64 step] 25)
  have k1c := (Blk.new w #[.slice W wl wc, .int .i64 col, .int .i64 clip, .int .i64 step] 25).cell
  have HA := Lib.hid (fun W => columnU_any col columns hc W)
  have HB := Lib.hid (fun W => withinU_any clip 1 1000000 W)
  clear hc
  generalize inN col 0 (columns - 1) = p1 at *
  generalize inN clip 1 1000000 = p2 at *
  by_cases hcol : col = -1
  · have hE : (if col = -1 then decide (clip = 1) else p1 && p2) = decide (clip = 1) := if_pos hcol
    have h1 : (col == -1) = true := by simpa using hcol
    have h2 : (clip == 1) = decide (clip = 1) := by by_cases e : clip = 1 <;> simp [e]
    rw [hE]
    generalize decide (clip = 1) = p3 at *
    clear hE hcol
    go_enter Tryz.func92, Tryz.ntmps92
    go_wp2_with fail
    go_ret
    exact ⟨rfl, b1⟩
  · have hE : (if col = -1 then decide (clip = 1) else p1 && p2) = (p1 && p2) := if_neg hcol
    have h1 : (col == -1) = false := by simpa using hcol
    rw [hE]
    clear hE hcol
    cases p1 with
    | false =>
      go_enter Tryz.func92, Tryz.ntmps92
      go_wp2_with (go_at_call 121; (with_reducible refine (HA.out _).mono ?_); rintro e w1 ⟨rfl, rfl⟩)
      go_ret
      exact ⟨rfl, b1⟩
    | true =>
      go_enter Tryz.func92, Tryz.ntmps92
      go_wp2_with (first
        | (go_at_call 121; (with_reducible refine (HA.out _).mono ?_); rintro e w1 ⟨rfl, rfl⟩)
        | (go_at_call 78; (with_reducible refine (HB.out _).mono ?_); rintro e w1 ⟨rfl, rfl⟩))
      go_ret
      exact ⟨ret_bool (by simp), b1⟩

set_option maxHeartbeats 1000000 in
theorem queV1_any (columns col lo hi : Int) (kc : Nat) (W : World) (hk : W.cell? ⟨kc, 0, none⟩ = some (.int .i64 columns)) (hkc : kc < W.heap.size) (hc : -1000 ≤ columns ∧ columns ≤ 1000) :
    Calls Tryz.prog 89 #[.agg #[.int .i64 col, .int .i64 lo, .int .i64 hi], .pointer (some ⟨kc, 0, none⟩)] W fun e w' => e = .returned (.bool (!(wheB columns ⟨col, lo, hi⟩))) ∧ Below W.heap.size W w' := by
  have b1 := (Below.refl W.heap.size W).alloc (Nat.le_refl _) (.cells #[.int .i64 col, .int .i64 lo, .int .i64 hi] 68)
  have k1c := (Blk.new W #[.int .i64 col, .int .i64 lo, .int .i64 hi] 68).cell
  have hk1 := (b1.cell (p := ⟨kc, 0, none⟩) hkc).trans hk
  have HV := Lib.hid (whereU_any columns col lo hi hc (W.alloc (.cells #[.int .i64 col, .int .i64 lo, .int .i64 hi] 68)))
  generalize (wheB columns ⟨col, lo, hi⟩) = p at *
  clear hk hc
  go_enter Tryz.func89, Tryz.ntmps89
  go_wp2_with (go_at_call 90; (with_reducible refine (HV.out).mono ?_); rintro e w1 ⟨rfl, h1⟩)
  go_ret
  exact ⟨rfl, b1.trans (h1.mono b1.size)⟩

set_option maxRecDepth 100000 in
set_option maxHeartbeats 1000000 in
theorem indexWhe_any (l : List Whe) (A : Option Addr) (c : Nat) (columns : Int) (kc : Nat) (w : World) (h : WhesAt w w.heap.size A l) (hl : l.length ≤ maxLen) (hk : w.cell? ⟨kc, 0, none⟩ = some (.int .i64 columns)) (hkc : kc < w.heap.size) (hc : -1000 ≤ columns ∧ columns ≤ 1000) :
    Calls Tryz.prog 122 #[.slice A l.length c, .func (.func 89) #[] #[.pointer (some ⟨kc, 0, none⟩)]] w (IdxPost (!(l.all fun x => wheB columns x)) w) := by
  unfold maxLen at hl
  have HH := Lib.hid h
  clear h
  go_enter Tryz.func122, Tryz.ntmps122
  go_wp2_with fail
  go_loopw [8] (fun ii wr => ∃ i : Nat, i ≤ l.length ∧ ii = .int .i64 i ∧ Hid ((∀ j, (hj : j < l.length) → j < i → (fun x => wheB columns x) l[j] = true) ∧ Below w.heap.size w wr)) (fun ii _ => l.length - (vInt ii).toNat)
  case atStart => exact ⟨0, Nat.zero_le _, rfl, Lib.hid ⟨fun j hj hj2 => by omega, Below.refl _ _⟩⟩
  case round =>
    obtain ⟨i, hi, rfl, hR⟩ := hrel
    by_cases hlt : i < l.length
    · have hil : (i : Int) < (l.length : Int) := by omega
      obtain ⟨hall, hB⟩ := hR.out
      obtain ⟨b, off, rfl, hb, c0, c1, c2⟩ := whes_at (HH.out.later hB) hlt
      have HC := Lib.hid (queV1_any columns l[i].col l[i].lo l[i].hi kc wr ((hB.cell (p := ⟨kc, 0, none⟩) hkc).trans hk) (Nat.lt_of_lt_of_le hkc hB.size) hc)
      have HN : Hid ((fun x => wheB columns x) l[i] = true → ∀ j, (hj : j < l.length) → j < i + 1 → (fun x => wheB columns x) l[j] = true) := Lib.hid (fun e j hj hj2 => by
        by_cases hji : j = i
        · subst hji; exact e
        · exact hall j hj (by omega))
      have HF : Hid ((fun x => wheB columns x) l[i] = false → l.all (fun x => wheB columns x) = false) := Lib.hid (fun e => by
        rw [List.all_eq_false]; exact ⟨l[i], List.getElem_mem hlt, by dsimp only at e; rw [e]; decide⟩)
      clear hall hR
      dsimp only at HN HF
      have hx : wheB columns ⟨l[i].col, l[i].lo, l[i].hi⟩ = wheB columns l[i] := rfl
      rw [hx] at HC
      clear hx
      generalize hp0 : wheB columns l[i] = p0 at HC HN HF
      have Hp0 := Lib.hid hp0
      clear hp0
      cases p : p0 with
      | true =>
        rw [p] at HC
        have HR := Lib.hid (HN.out p)
        clear HN HF p
        go_wp2_with (go_at_call 89; (with_reducible refine (HC.out).mono ?_); rintro e w2 ⟨rfl, h2⟩)
        go_roundw
        case rel => exact ⟨i + 1, by omega, by go_num, Lib.hid ⟨HR.out, hB.trans (h2.mono hB.size)⟩⟩
        case measure => simp [vInt]; omega
      | false =>
        rw [p] at HC
        have HR := Lib.hid (HF.out p)
        clear HN HF p
        go_wp2_with (go_at_call 89; (with_reducible refine (HC.out).mono ?_); rintro e w2 ⟨rfl, h2⟩)
        go_ret
        exact ⟨_, rfl, by rw [HR.out]; simp, hB.trans (h2.mono hB.size)⟩
    · have hil : ¬ (i : Int) < (l.length : Int) := by omega
      have HR : Hid (l.all (fun x => wheB columns x) = true) := Lib.hid (by
        rw [List.all_eq_true]
        intro x hx
        obtain ⟨j, hj, rfl⟩ := List.getElem_of_mem hx
        exact hR.out.1 j hj (by omega))
      have hfin := hR.out.2
      clear hR
      go_wp2_with fail
      go_ret
      exact ⟨_, rfl, by rw [HR.out]; decide, hfin⟩

set_option maxHeartbeats 1000000 in
theorem containsWhe_any (l : List Whe) (A : Option Addr) (c : Nat) (columns : Int) (kc : Nat) (w : World) (h : WhesAt w w.heap.size A l) (hl : l.length ≤ maxLen) (hk : w.cell? ⟨kc, 0, none⟩ = some (.int .i64 columns)) (hkc : kc < w.heap.size) (hc : -1000 ≤ columns ∧ columns ≤ 1000) :
    Calls Tryz.prog 91 #[.slice A l.length c, .func (.func 89) #[] #[.pointer (some ⟨kc, 0, none⟩)]] w fun e w' => e = .returned (.bool (!(l.all fun x => wheB columns x))) ∧ Below w.heap.size w w' := by
  have HI := Lib.hid (indexWhe_any l A c columns kc w h hl hk hkc hc)
  generalize (!(l.all fun x => wheB columns x)) = b at *
  clear h
  go_enter Tryz.func91, Tryz.ntmps91
  go_wp2_with (go_at_call 122; (with_reducible refine (HI.out).mono ?_); rintro e w1 ⟨n, rfl, hn, h1⟩; have Hn := Lib.hid hn; clear hn)
  go_ret
  exact ⟨ret_bool Hn.out, h1⟩

set_option maxRecDepth 100000 in
set_option maxHeartbeats 8000000 in
theorem questionU_any (columns : Int) (wh : List Whe) (col clip step : Int) (W : Option Addr) (wc : Nat) (w : World) (hq : WhesAt w w.heap.size W wh) (hl : wh.length ≤ maxLen) (hc : -1000 ≤ columns ∧ columns ≤ 1000) :
    Calls Tryz.prog 62 #[.int .i64 columns, .agg #[.slice W wh.length wc, .int .i64 col, .int .i64 clip, .int .i64 step]] w fun e w' => e = .returned (.bool (queB columns ⟨wh, col, clip, step⟩)) ∧ Below w.heap.size w w' := by
  have b2 := ((Below.refl w.heap.size w).alloc (Nat.le_refl _) (.cells #[.int .i64 columns] 3)).alloc (by simp) (.cells #[.slice W wh.length wc, .int .i64 col, .int .i64 clip, .int .i64 step] 25)
  have k1 := (Blk.new w #[.int .i64 columns] 3).alloc (.cells #[.slice W wh.length wc, .int .i64 col, .int .i64 clip, .int .i64 step] 25)
  have k2 := newAt' (w.alloc (.cells #[.int .i64 columns] 3)) #[.slice W wh.length wc, .int .i64 col, .int .i64 clip, .int .i64 step] 25 (g := w.heap.size + 1) (by simp)
  have k1c := k1.cell
  have k2c := k2.cell
  have HC := Lib.hid (fun W' hb hk hkc => containsWhe_any wh W wc columns w.heap.size W' (hq.later hb) hl hk hkc hc)
  have HN := Lib.hid (fun W' => countU_any columns W wh.length wc col clip step hc W')
  have HS := Lib.hid (fun W' => withinU_any step 1 1000000 W')
  have hE : queB columns ⟨wh, col, clip, step⟩ = (decide (wh.length ≤ 4) && inN step 1 1000000 && (wh.all fun x => wheB columns x) && (if col = -1 then decide (clip = 1) else inN col 0 (columns - 1) && inN clip 1 1000000)) := rfl
  rw [hE]
  have h4 : decide ((wh.length : Int) ≤ 4) = decide (wh.length ≤ 4) := by by_cases e : wh.length ≤ 4 <;> simp [e] <;> omega
  have HK : Hid (((w.alloc (.cells #[.int .i64 columns] 3)).alloc (.cells #[.slice W wh.length wc, .int .i64 col, .int .i64 clip, .int .i64 step] 25)).cell? ⟨w.heap.size, 0, none⟩ = some (.int .i64 columns)) := Lib.hid (k1.cell 0)
  have g1 := k1.lt
  clear hE hc hq
  generalize (wh.all fun x => wheB columns x) = p2 at *
  generalize (if col = -1 then decide (clip = 1) else inN col 0 (columns - 1) && inN clip 1 1000000) = p3 at *
  generalize inN step 1 1000000 = p4 at *
  by_cases hw4 : wh.length ≤ 4
  rotate_left
  · have h5 : decide (wh.length ≤ 4) = false := decide_eq_false hw4
    rw [h5] at h4
    rw [h5]
    clear h5 k1 k2
    go_enter Tryz.func62, Tryz.ntmps62
    go_wp2_with fail
    go_ret
    exact ⟨rfl, b2⟩
  have h5 : decide (wh.length ≤ 4) = true := decide_eq_true hw4
  rw [h5] at h4
  rw [h5]
  clear h5
  cases p2 with
  | false =>
    clear k1 k2
    go_enter Tryz.func62, Tryz.ntmps62
    go_wp2_with (go_at_call 91; (with_reducible refine (HC.out _ b2 HK.out g1).mono ?_); rintro e w2 ⟨rfl, h2⟩)
    go_ret
    exact ⟨ret_bool (by simp), b2.trans (h2.mono b2.size)⟩
  | true =>
    cases p3 with
    | false =>
      go_enter Tryz.func62, Tryz.ntmps62
      go_wp2_with (first
        | (go_at_call 91; (with_reducible refine (HC.out _ b2 HK.out g1).mono ?_); rintro e w2 ⟨rfl, h2⟩; have b3 := b2.trans (h2.mono b2.size); have q1c := (k1.below h2 k1.lt).cell; have q2c := (k2.below h2 k2.lt).cell)
        | (go_at_call 92; (with_reducible refine (HN.out _).mono ?_); rintro e w3 ⟨rfl, h3⟩; have b4 := b3.trans (h3.mono b3.size)))
      go_ret
      exact ⟨ret_bool (by simp), b4⟩
    | true =>
      go_enter Tryz.func62, Tryz.ntmps62
      go_wp2_with (first
        | (go_at_call 91; (with_reducible refine (HC.out _ b2 HK.out g1).mono ?_); rintro e w2 ⟨rfl, h2⟩; have b3 := b2.trans (h2.mono b2.size); have q1 := k1.below h2 k1.lt; have q2 := k2.below h2 k2.lt; have q1c := q1.cell; have q2c := q2.cell)
        | (go_at_call 92; (with_reducible refine (HN.out _).mono ?_); rintro e w3 ⟨rfl, h3⟩; have b4 := b3.trans (h3.mono b3.size); have r2c := (q2.below h3 q2.lt).cell)
        | (go_at_call 78; (with_reducible refine (HS.out _).mono ?_); rintro e w4 ⟨rfl, rfl⟩))
      go_ret
      exact ⟨ret_bool (by simp), b4⟩
end Go.Proofs.YtbkekdbabkncfaaGreat
