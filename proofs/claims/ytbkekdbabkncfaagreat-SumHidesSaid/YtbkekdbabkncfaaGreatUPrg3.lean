/- Values by numbers, and whether a table is valid, by the program. -/
import Derived.Test.YtbkekdbabkncfaaGreatUPrg1
import Derived.Test.YtbkekdbabkncfaaGreatD2

namespace Go.Proofs.YtbkekdbabkncfaaGreat
open Go.RowKit Go.Maps

set_option maxRecDepth 100000 in
set_option maxHeartbeats 4000000 in
theorem valuesU_any (l : List SubD) (A : Option Addr) (c : Nat) (w : World) (h : SubsAt w w.heap.size A l) (hl : l.length ≤ 1000) (hid : ∀ x ∈ l, 0 ≤ x.v.id ∧ x.v.id ≤ 999999) :
    Calls Tryz.prog 80 #[.slice A l.length c] w (ValsPost w l) := by
  have hmm := @run_makeMap Tryz.prog
  have HI0 : Hid (MapFn (w.alloc (.map #[] 0)) Tryz.prog 3 w.heap.size 0 (valG (l.take 0)) ∧ Below w.heap.size w (w.alloc (.map #[] 0))) := Lib.hid ⟨MapFn.made w Tryz.prog 3, (Below.refl _ _).alloc (Nat.le_refl _) _⟩
  have HW := Lib.hid hid
  have HH := Lib.hid h
  clear hid h
  go_enter Tryz.func80, Tryz.ntmps80
  go_wp2_with fail
  go_loopw [9] (fun ii wr => ∃ i : Nat, i ≤ l.length ∧ ii = .int .i64 i ∧ Hid (MapFn wr Tryz.prog 3 w.heap.size i (valG (l.take i)) ∧ Below w.heap.size w wr)) (fun ii _ => l.length - (vInt ii).toNat)
  case atStart => exact ⟨0, Nat.zero_le _, rfl, HI0⟩
  case round =>
    obtain ⟨i, hi, rfl, hR⟩ := hrel
    clear HI0
    obtain ⟨hM, hB⟩ := hR.out
    by_cases hlt : i < l.length
    · have hil : (i : Int) < (l.length : Int) := by omega
      obtain ⟨b, off, rfl, hb, c0, c1, hv⟩ := subs_at (HH.out.later hB) hlt
      have hid := HW.out _ (List.getElem_mem hlt)
      have HT : Hid (valG (l.take (i + 1)) = putFn (valG (l.take i)) (.int .i64 l[i].v.id) (valsV l[i])) := Lib.hid (by rw [← valG_snoc, List.take_succ_eq_append_getElem hlt])
      clear hv hR
      generalize l[i] = x at *
      have hB1 := hB.alloc hB.size (.cells #[.int .i64 x.v.id, .slice x.V x.v.vals.length x.c] 56)
      obtain ⟨w3, hrun3, hput, hg3⟩ := (hM.alloc (.cells #[.int .i64 x.v.id, .slice x.V x.v.vals.length x.c] 56)).put (int_keyed Tryz.underlying3) Tryz.underlying70 (by unfold maxLen; omega) (keyOf_int_mk Tryz.underlying3 (show (Lit.int .i64 x.v.id).wf = true from WalkArith.wf_i64 (by omega))) (val := .slice x.V x.v.vals.length x.c)
      have HJ : Hid (MapFn w3 Tryz.prog 3 w.heap.size (i + 1) (valG (l.take (i + 1))) ∧ Below w.heap.size w w3) := Lib.hid ⟨by rw [HT.out]; exact hput, hB1.grown hg3 hB1.size (fun k e => by have := Option.some.inj e; omega)⟩
      clear hput hM hB hB1 hg3 hid
      go_wp2_with fail
      go_roundw
      case rel => exact ⟨i + 1, by omega, by go_num, HJ⟩
      case measure => simp [vInt]; omega
    · have hil : ¬ (i : Int) < (l.length : Int) := by omega
      have hii : i = l.length := by omega
      subst hii
      rw [List.take_length] at hM
      clear hR
      go_wp2_with fail
      go_ret
      exact ⟨w.heap.size, rfl, Nat.le_refl _, hM, hB⟩
theorem tabE_eq (columns : Int) (l : List SubD) : tabB columns (l.map SubD.v) = (inN columns 1 5 && decide (l.length ≤ 16) && (l.all fun x => subB columns x.v) && decide ((ded (l.map fun x => x.v.id)).length = l.length)) := by
  unfold tabB
  have e1 : ((l.map SubD.v).all (subB columns)) = l.all fun x => subB columns x.v := by rw [List.all_map]; rfl
  have e2 : (l.map SubD.v).map Sub.id = l.map fun x => x.v.id := by rw [List.map_map]; rfl
  have e3 := ded_len (l.map fun x => x.v.id)
  rw [List.length_map] at e3
  rw [e1, e2, List.length_map]
  by_cases h : (l.map fun x => x.v.id).Nodup
  · rw [decide_eq_true h, decide_eq_true (e3.2 h)]
  · rw [decide_eq_false h, decide_eq_false (fun e => h (e3.1 e))]
set_option maxRecDepth 100000 in
set_option maxHeartbeats 4000000 in
theorem tableU_any (columns : Int) (l : List SubD) (A : Option Addr) (c : Nat) (w : World) (h : SubsAt w w.heap.size A l) (hl : l.length ≤ maxLen) (hm : ∀ x ∈ l, x.v.vals.length ≤ maxLen) :
    Calls Tryz.prog 48 #[.int .i64 columns, .slice A l.length c] w fun e w' => e = .returned (.bool (tabB columns (l.map SubD.v))) ∧ Below w.heap.size w w' := by
  have b1 := (Below.refl w.heap.size w).alloc (Nat.le_refl _) (.cells #[.int .i64 columns] 3)
  have k1 := Blk.new w #[.int .i64 columns] 3
  have k1c := k1.cell
  have HK : Hid ((w.alloc (.cells #[.int .i64 columns] 3)).cell? ⟨w.heap.size, 0, none⟩ = some (.int .i64 columns)) := Lib.hid (k1.cell 0)
  have g1 := k1.lt
  have HW := Lib.hid (fun W => withinU_any columns 1 5 W)
  have HC := Lib.hid (fun W hb hk hkc => containsSub_any l A c columns w.heap.size W (h.later hb) hl hk hkc hm)
  have HV := Lib.hid (fun (W : World) (hb : Below w.heap.size w W) h16 hid => valuesU_any l A c W (h.later hb) h16 hid)
  have HA : Hid ((l.all fun x => subB columns x.v) = true → ∀ x ∈ l, 0 ≤ x.v.id ∧ x.v.id ≤ 999999) := Lib.hid (fun e x hx => (sub_parts (List.all_eq_true.1 e x hx)).1)
  rw [tabE_eq]
  have h16 : decide ((l.length : Int) ≤ 16) = decide (l.length ≤ 16) := by by_cases e : l.length ≤ 16 <;> simp [e] <;> omega
  clear h hm k1 
  generalize inN columns 1 5 = p1 at *
  generalize (l.all fun x => subB columns x.v) = p3 at *
  cases p1 with
  | false =>
    clear HC HV HA
    go_enter Tryz.func48, Tryz.ntmps48
    go_wp2_with (go_at_call 78; (with_reducible refine (HW.out _).mono ?_); rintro e w1 ⟨rfl, rfl⟩)
    go_ret
    exact ⟨rfl, b1⟩
  | true =>
    by_cases hl16 : l.length ≤ 16
    rotate_left
    · have h5 : decide (l.length ≤ 16) = false := decide_eq_false hl16
      rw [h5] at h16
      rw [h5]
      clear h5 HC HV HA
      go_enter Tryz.func48, Tryz.ntmps48
      go_wp2_with (go_at_call 78; (with_reducible refine (HW.out _).mono ?_); rintro e w1 ⟨rfl, rfl⟩)
      go_ret
      exact ⟨rfl, b1⟩
    have h5 : decide (l.length ≤ 16) = true := decide_eq_true hl16
    rw [h5] at h16
    rw [h5]
    clear h5
    cases p3 with
    | false =>
      clear HV HA
      go_enter Tryz.func48, Tryz.ntmps48
      go_wp2_with (first
        | (go_at_call 78; (with_reducible refine (HW.out _).mono ?_); rintro e w1 ⟨rfl, rfl⟩)
        | (go_at_call 79; (with_reducible refine (HC.out _ b1 HK.out g1).mono ?_); rintro e w2 ⟨rfl, h2⟩))
      go_ret
      exact ⟨ret_bool (by simp), b1.trans (h2.mono b1.size)⟩
    | true =>
      have HV2 := Lib.hid (fun W hb => HV.out W hb (by omega) (HA.out rfl))
      clear HV HA
      have hb2 : (((ded (l.map fun x => x.v.id)).length : Int) == (l.length : Int)) = decide ((ded (l.map fun x => x.v.id)).length = l.length) := by
        by_cases e : (ded (l.map fun x => x.v.id)).length = l.length
        · rw [decide_eq_true e, e]; simp
        · rw [decide_eq_false e]; simp; omega
      have HB2 := Lib.hid hb2
      clear hb2
      go_enter Tryz.func48, Tryz.ntmps48
      go_wp2_with (first
        | (go_at_call 78; (with_reducible refine (HW.out _).mono ?_); rintro e w1 ⟨rfl, rfl⟩)
        | (go_at_call 79; (with_reducible refine (HC.out _ b1 HK.out g1).mono ?_); rintro e w2 ⟨rfl, h2⟩; have b2 := b1.trans (h2.mono b1.size))
        | (go_at_call 80; (with_reducible refine (HV2.out _ b2).mono ?_); rintro e w3 ⟨b, rfl, _, hM, h3⟩; have b3 := b2.trans (h3.mono b2.size); obtain ⟨D, hown, hat⟩ := hM; have hlen := hown.len Tryz.underlying70; rw [val_size hown hat] at hlen; clear hown hat))
      go_ret
      exact ⟨ret_bool HB2.out, b3⟩
set_option maxHeartbeats 1000000 in
theorem checkU_any (columns : Int) (l : List SubD) (A : Option Addr) (c : Nat) (w : World) (h : SubsAt w w.heap.size A l) (hl : l.length ≤ maxLen) (hm : ∀ x ∈ l, x.v.vals.length ≤ maxLen) :
    Calls Tryz.prog 22 #[.int .i64 columns, .slice A l.length c] w fun e w' => e = .returned (.int .i64 (tabE columns (l.map SubD.v))) ∧ Below w.heap.size w w' := by
  have HT := Lib.hid (tableU_any columns l A c w h hl hm)
  have hE : tabE columns (l.map SubD.v) = if tabB columns (l.map SubD.v) = true then 0 else 100 := rfl
  rw [hE]
  clear hE h hm
  generalize tabB columns (l.map SubD.v) = p at *
  cases p with
  | false =>
    go_enter Tryz.func22, Tryz.ntmps22
    go_wp2_with (go_at_call 48; (with_reducible refine (HT.out).mono ?_); rintro e w1 ⟨rfl, h1⟩)
    go_ret
    exact ⟨rfl, h1⟩
  | true =>
    go_enter Tryz.func22, Tryz.ntmps22
    go_wp2_with (go_at_call 48; (with_reducible refine (HT.out).mono ?_); rintro e w1 ⟨rfl, h1⟩)
    go_ret
    exact ⟨rfl, h1⟩
end Go.Proofs.YtbkekdbabkncfaaGreat
