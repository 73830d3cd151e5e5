/- What is valid, by the program: numbers, subjects, wheres. Written by p1.py. -/
import Derived.Test.YtbkekdbabkncfaaGreatURef4

namespace Go.Proofs.YtbkekdbabkncfaaGreat
open Go.RowKit Go.Maps

/-- What looks for the first element of which something does not hold leaves. -/
def IdxPost (b : Bool) (w : World) (e : Ending) (w' : World) : Prop := ∃ n : Int, e = .returned (.int .i64 n) ∧ decide (0 ≤ n) = b ∧ Below w.heap.size w w'
def valV (n : Int) : Bool := inN n 0 1000000
set_option maxHeartbeats 400000 in
theorem withinU_any (n lo hi : Int) (w : World) :
    Calls Tryz.prog 78 #[.int .i64 n, .int .i64 lo, .int .i64 hi] w fun e w' => e = .returned (.bool (inN n lo hi)) ∧ w = w' := by
  go_enter Tryz.func78, Tryz.ntmps78
  go_wp2
  all_goals go_ret
  all_goals refine ⟨ret_bool ?_, rfl⟩
  · have h : lo ≤ n := by assumption
    simp [inN, h]
  · have h : n < lo := by assumption
    have h' : ¬ lo ≤ n := by omega
    simp [inN, h']
set_option maxHeartbeats 400000 in
theorem valueU_any (n : Int) (w : World) :
    Calls Tryz.prog 113 #[.int .i64 n] w fun e w' => e = .returned (.bool (valV n)) ∧ w = w' := by
  have H := Lib.hid (withinU_any n 0 1000000 w)
  change Calls Tryz.prog 113 #[.int .i64 n] w fun e w' => e = .returned (.bool (inN n 0 1000000)) ∧ w = w'
  generalize inN n 0 1000000 = p at *
  go_enter Tryz.func113, Tryz.ntmps113
  go_wp2_with (go_at_call 78; (with_reducible refine (H.out).mono ?_); rintro e w1 ⟨rfl, rfl⟩)
  go_ret
  exact ⟨rfl, rfl⟩
set_option maxHeartbeats 400000 in
theorem subV1_any (n : Int) (w : World) :
    Calls Tryz.prog 112 #[.int .i64 n] w fun e w' => e = .returned (.bool (!(valV n))) ∧ Below w.heap.size w w' := by
  have H := Lib.hid (valueU_any n w)
  generalize valV n = p at *
  go_enter Tryz.func112, Tryz.ntmps112
  go_wp2_with (go_at_call 113; (with_reducible refine (H.out).mono ?_); rintro e w1 ⟨rfl, rfl⟩)
  go_ret
  exact ⟨rfl, Below.refl _ _⟩

set_option maxRecDepth 100000 in
set_option maxHeartbeats 1000000 in
theorem indexInt_any (l : List Int) (A : Option Addr) (c : Nat) (w : World) (h : IntsAt w w.heap.size A l) (hl : l.length ≤ maxLen) :
    Calls Tryz.prog 139 #[.slice A l.length c, .func (.func 112) #[] #[]] w (IdxPost (!(l.all fun x => valV x)) w) := by
  unfold maxLen at hl
  have HH := Lib.hid h
  clear h
  go_enter Tryz.func139, Tryz.ntmps139
  go_wp2_with fail
  go_loopw [8] (fun ii wr => ∃ i : Nat, i ≤ l.length ∧ ii = .int .i64 i ∧ Hid ((∀ j, (hj : j < l.length) → j < i → (fun x => valV x) l[j] = true) ∧ Below w.heap.size w wr)) (fun ii _ => l.length - (vInt ii).toNat)
  case atStart => exact ⟨0, Nat.zero_le _, rfl, Lib.hid ⟨fun j hj hj2 => by omega, Below.refl _ _⟩⟩
  case round =>
    obtain ⟨i, hi, rfl, hR⟩ := hrel
    by_cases hlt : i < l.length
    · have hil : (i : Int) < (l.length : Int) := by omega
      obtain ⟨hall, hB⟩ := hR.out
      obtain ⟨b, off, rfl, hb, c0⟩ := ints_at (HH.out.later hB) hlt
      have HC := Lib.hid (subV1_any l[i] wr)
      have HN : Hid ((fun x => valV x) l[i] = true → ∀ j, (hj : j < l.length) → j < i + 1 → (fun x => valV x) l[j] = true) := Lib.hid (fun e j hj hj2 => by
        by_cases hji : j = i
        · subst hji; exact e
        · exact hall j hj (by omega))
      have HF : Hid ((fun x => valV x) l[i] = false → l.all (fun x => valV x) = false) := Lib.hid (fun e => by
        rw [List.all_eq_false]; exact ⟨l[i], List.getElem_mem hlt, by dsimp only at e; rw [e]; decide⟩)
      clear hall hR
      dsimp only at HN HF
      generalize hp0 : valV l[i] = p0 at HC HN HF
      have Hp0 := Lib.hid hp0
      clear hp0
      generalize l[i] = z at *
      cases p : p0 with
      | true =>
        rw [p] at HC
        have HR := Lib.hid (HN.out p)
        clear HN HF p
        go_wp2_with (go_at_call 112; (with_reducible refine (HC.out).mono ?_); rintro e w2 ⟨rfl, h2⟩)
        go_roundw
        case rel => exact ⟨i + 1, by omega, by go_num, Lib.hid ⟨HR.out, hB.trans (h2.mono hB.size)⟩⟩
        case measure => simp [vInt]; omega
      | false =>
        rw [p] at HC
        have HR := Lib.hid (HF.out p)
        clear HN HF p
        go_wp2_with (go_at_call 112; (with_reducible refine (HC.out).mono ?_); rintro e w2 ⟨rfl, h2⟩)
        go_ret
        exact ⟨_, rfl, by rw [HR.out]; simp, hB.trans (h2.mono hB.size)⟩
    · have hil : ¬ (i : Int) < (l.length : Int) := by omega
      have HR : Hid (l.all (fun x => valV x) = true) := Lib.hid (by
        rw [List.all_eq_true]
        intro x hx
        obtain ⟨j, hj, rfl⟩ := List.getElem_of_mem hx
        exact hR.out.1 j hj (by omega))
      have hfin := hR.out.2
      clear hR
      go_wp2_with fail
      go_ret
      exact ⟨_, rfl, by rw [HR.out]; decide, hfin⟩

set_option maxHeartbeats 1000000 in
theorem containsInt_any (l : List Int) (A : Option Addr) (c : Nat) (w : World) (h : IntsAt w w.heap.size A l) (hl : l.length ≤ maxLen) :
    Calls Tryz.prog 114 #[.slice A l.length c, .func (.func 112) #[] #[]] w fun e w' => e = .returned (.bool (!(l.all fun x => valV x))) ∧ Below w.heap.size w w' := by
  have HI := Lib.hid (indexInt_any l A c w h hl )
  generalize (!(l.all fun x => valV x)) = b at *
  clear h
  go_enter Tryz.func114, Tryz.ntmps114
  go_wp2_with (go_at_call 139; (with_reducible refine (HI.out).mono ?_); rintro e w1 ⟨n, rfl, hn, h1⟩; have Hn := Lib.hid hn; clear hn)
  go_ret
  exact ⟨ret_bool Hn.out, h1⟩

set_option maxRecDepth 100000 in
set_option maxHeartbeats 4000000 in
theorem subjectU_any (columns id : Int) (vals : List Int) (V : Option Addr) (vc : Nat) (w : World) (hv : IntsAt w w.heap.size V vals) (hl : vals.length ≤ maxLen) :
    Calls Tryz.prog 77 #[.int .i64 columns, .agg #[.int .i64 id, .slice V vals.length vc]] w fun e w' => e = .returned (.bool (subB columns ⟨id, vals⟩)) ∧ Below w.heap.size w w' := by
  have b1 := (Below.refl w.heap.size w).alloc (Nat.le_refl _) (.cells #[.int .i64 id, .slice V vals.length vc] 56)
  have k1c := (Blk.new w #[.int .i64 id, .slice V vals.length vc] 56).cell
  have HW := Lib.hid (fun W => withinU_any id 0 999999 W)
  have HC := Lib.hid (fun W hb => containsInt_any vals V vc W (hv.later hb) hl)
  have hE : subB columns ⟨id, vals⟩ = (inN id 0 999999 && decide ((vals.length : Int) = columns) && vals.all fun x => valV x) := rfl
  rw [hE]
  clear hE hv
  generalize inN id 0 999999 = p1 at *
  generalize (vals.all fun x => valV x) = p3 at *
  have h2 : ((vals.length : Int) == columns) = decide ((vals.length : Int) = columns) := by by_cases e : (vals.length : Int) = columns <;> simp [e]
  generalize hp2 : decide ((vals.length : Int) = columns) = p2 at *
  clear hp2
  cases p1 with
  | false =>
    go_enter Tryz.func77, Tryz.ntmps77
    go_wp2_with (go_at_call 78; (with_reducible refine (HW.out _).mono ?_); rintro e w1 ⟨rfl, rfl⟩)
    go_ret
    exact ⟨rfl, b1⟩
  | true =>
    cases p2 with
    | false =>
      go_enter Tryz.func77, Tryz.ntmps77
      go_wp2_with (go_at_call 78; (with_reducible refine (HW.out _).mono ?_); rintro e w1 ⟨rfl, rfl⟩)
      go_ret
      exact ⟨rfl, b1⟩
    | true =>
      go_enter Tryz.func77, Tryz.ntmps77
      go_wp2_with (first
        | (go_at_call 78; (with_reducible refine (HW.out _).mono ?_); rintro e w1 ⟨rfl, rfl⟩)
        | (go_at_call 114; (with_reducible refine (HC.out _ b1).mono ?_); rintro e w2 ⟨rfl, h2⟩))
      go_ret
      exact ⟨ret_bool (by simp), b1.trans (h2.mono b1.size)⟩

set_option maxHeartbeats 1000000 in
theorem tabV1_any (columns id : Int) (vals : List Int) (V : Option Addr) (vc : Nat) (kc : Nat) (W : World) (hk : W.cell? ⟨kc, 0, none⟩ = some (.int .i64 columns)) (hkc : kc < W.heap.size) (hv : IntsAt W W.heap.size V vals) (hl : vals.length ≤ maxLen) :
    Calls Tryz.prog 76 #[.agg #[.int .i64 id, .slice V vals.length vc], .pointer (some ⟨kc, 0, none⟩)] W fun e w' => e = .returned (.bool (!(subB columns ⟨id, vals⟩))) ∧ Below W.heap.size W w' := by
  have b1 := (Below.refl W.heap.size W).alloc (Nat.le_refl _) (.cells #[.int .i64 id, .slice V vals.length vc] 56)
  have k1c := (Blk.new W #[.int .i64 id, .slice V vals.length vc] 56).cell
  have hk1 := (b1.cell (p := ⟨kc, 0, none⟩) hkc).trans hk
  have HV := Lib.hid (subjectU_any columns id vals V vc _ (hv.later b1) hl)
  generalize (subB columns ⟨id, vals⟩) = p at *
  clear hk hv
  go_enter Tryz.func76, Tryz.ntmps76
  go_wp2_with (go_at_call 77; (with_reducible refine (HV.out).mono ?_); rintro e w1 ⟨rfl, h1⟩)
  go_ret
  exact ⟨rfl, b1.trans (h1.mono b1.size)⟩

set_option maxRecDepth 100000 in
set_option maxHeartbeats 1000000 in
theorem indexSub_any (l : List SubD) (A : Option Addr) (c : Nat) (columns : Int) (kc : Nat) (w : World) (h : SubsAt w w.heap.size A l) (hl : l.length ≤ maxLen) (hk : w.cell? ⟨kc, 0, none⟩ = some (.int .i64 columns)) (hkc : kc < w.heap.size) (hm : ∀ x ∈ l, x.v.vals.length ≤ maxLen) :
    Calls Tryz.prog 115 #[.slice A l.length c, .func (.func 76) #[] #[.pointer (some ⟨kc, 0, none⟩)]] w (IdxPost (!(l.all fun x => subB columns x.v)) w) := by
  unfold maxLen at hl
  have HH := Lib.hid h
  clear h
  go_enter Tryz.func115, Tryz.ntmps115
  go_wp2_with fail
  go_loopw [8] (fun ii wr => ∃ i : Nat, i ≤ l.length ∧ ii = .int .i64 i ∧ Hid ((∀ j, (hj : j < l.length) → j < i → (fun x => subB columns x.v) l[j] = true) ∧ Below w.heap.size w wr)) (fun ii _ => l.length - (vInt ii).toNat)
  case atStart => exact ⟨0, Nat.zero_le _, rfl, Lib.hid ⟨fun j hj hj2 => by omega, Below.refl _ _⟩⟩
  case round =>
    obtain ⟨i, hi, rfl, hR⟩ := hrel
    by_cases hlt : i < l.length
    · have hil : (i : Int) < (l.length : Int) := by omega
      obtain ⟨hall, hB⟩ := hR.out
      obtain ⟨b, off, rfl, hb, c0, c1, hv⟩ := subs_at (HH.out.later hB) hlt
      have HC := Lib.hid (tabV1_any columns l[i].v.id l[i].v.vals l[i].V l[i].c kc wr ((hB.cell (p := ⟨kc, 0, none⟩) hkc).trans hk) (Nat.lt_of_lt_of_le hkc hB.size) hv (hm _ (List.getElem_mem hlt)))
      have HN : Hid ((fun x => subB columns x.v) l[i] = true → ∀ j, (hj : j < l.length) → j < i + 1 → (fun x => subB columns x.v) l[j] = true) := Lib.hid (fun e j hj hj2 => by
        by_cases hji : j = i
        · subst hji; exact e
        · exact hall j hj (by omega))
      have HF : Hid ((fun x => subB columns x.v) l[i] = false → l.all (fun x => subB columns x.v) = false) := Lib.hid (fun e => by
        rw [List.all_eq_false]; exact ⟨l[i], List.getElem_mem hlt, by dsimp only at e; rw [e]; decide⟩)
      clear hall hR
      dsimp only at HN HF
      have hx : subB columns ⟨l[i].v.id, l[i].v.vals⟩ = subB columns l[i].v := rfl
      rw [hx] at HC
      clear hx hv
      generalize hp0 : subB columns l[i].v = p0 at HC HN HF
      have Hp0 := Lib.hid hp0
      clear hp0
      cases p : p0 with
      | true =>
        rw [p] at HC
        have HR := Lib.hid (HN.out p)
        clear HN HF p
        go_wp2_with (go_at_call 76; (with_reducible refine (HC.out).mono ?_); rintro e w2 ⟨rfl, h2⟩)
        go_roundw
        case rel => exact ⟨i + 1, by omega, by go_num, Lib.hid ⟨HR.out, hB.trans (h2.mono hB.size)⟩⟩
        case measure => simp [vInt]; omega
      | false =>
        rw [p] at HC
        have HR := Lib.hid (HF.out p)
        clear HN HF p
        go_wp2_with (go_at_call 76; (with_reducible refine (HC.out).mono ?_); rintro e w2 ⟨rfl, h2⟩)
        go_ret
        exact ⟨_, rfl, by rw [HR.out]; simp, hB.trans (h2.mono hB.size)⟩
    · have hil : ¬ (i : Int) < (l.length : Int) := by omega
      have HR : Hid (l.all (fun x => subB columns x.v) = true) := Lib.hid (by
        rw [List.all_eq_true]
        intro x hx
        obtain ⟨j, hj, rfl⟩ := List.getElem_of_mem hx
        exact hR.out.1 j hj (by omega))
      have hfin := hR.out.2
      clear hR
      go_wp2_with fail
      go_ret
      exact ⟨_, rfl, by rw [HR.out]; decide, hfin⟩

set_option maxHeartbeats 1000000 in
theorem containsSub_any (l : List SubD) (A : Option Addr) (c : Nat) (columns : Int) (kc : Nat) (w : World) (h : SubsAt w w.heap.size A l) (hl : l.length ≤ maxLen) (hk : w.cell? ⟨kc, 0, none⟩ = some (.int .i64 columns)) (hkc : kc < w.heap.size) (hm : ∀ x ∈ l, x.v.vals.length ≤ maxLen) :
    Calls Tryz.prog 79 #[.slice A l.length c, .func (.func 76) #[] #[.pointer (some ⟨kc, 0, none⟩)]] w fun e w' => e = .returned (.bool (!(l.all fun x => subB columns x.v))) ∧ Below w.heap.size w w' := by
  have HI := Lib.hid (indexSub_any l A c columns kc w h hl hk hkc hm)
  generalize (!(l.all fun x => subB columns x.v)) = b at *
  clear h
  go_enter Tryz.func79, Tryz.ntmps79
  go_wp2_with (go_at_call 115; (with_reducible refine (HI.out).mono ?_); rintro e w1 ⟨n, rfl, hn, h1⟩; have Hn := Lib.hid hn; clear hn)
  go_ret
  exact ⟨ret_bool Hn.out, h1⟩
end Go.Proofs.YtbkekdbabkncfaaGreat
