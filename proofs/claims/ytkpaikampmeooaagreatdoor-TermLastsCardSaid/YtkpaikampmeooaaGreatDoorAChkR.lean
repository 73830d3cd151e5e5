/- The check of reports, by the reference. -/
import Derived.Test.YtkpaikampmeooaaGreatDoorAChkP

namespace Go.Proofs.YtkpaikampmeooaaGreatDoor
open Go.RowKit Go.Maps

theorem rep_neq (r s : Rep) (W : World) : (binOp .neq 56 (.agg #[.int .i64 r.id, .int .i64 r.src, .int .i64 r.acc, .int .i64 r.made, .int .i64 r.about, .int .u8 r.kind, .int .i64 r.cents, .int .i64 r.of_]) (.agg #[.int .i64 s.id, .int .i64 s.src, .int .i64 s.acc, .int .i64 s.made, .int .i64 s.about, .int .u8 s.kind, .int .i64 s.cents, .int .i64 s.of_])).run Tryz.prog W = .ok (.bool (!sameRep r s)) W := by
  go_simp
  unfold sameRep
  repeat' split
  all_goals simp [*]
/-- No two that differ have the same number: the pairs that are looked at. -/
def PairsOk (l : List Rep) (i k : Nat) : Prop := ∀ a b, (ha : a < l.length) → (hb : b < l.length) → b < a → (a < i ∨ a = i ∧ b < k) → l[a].id = l[b].id → l[a] = l[b]
theorem pairsOk_end {l : List Rep} (h : PairsOk l l.length 0) : clashB l = false := by
  rw [clashB_iff]
  intro r hr s hs e
  obtain ⟨a, ha, rfl⟩ := List.getElem_of_mem hr
  obtain ⟨b, hb, rfl⟩ := List.getElem_of_mem hs
  rcases Nat.lt_trichotomy a b with hab | hab | hab
  · exact (h b a hb ha hab (.inl hb) e.symm).symm
  · subst hab; rfl
  · exact h a b ha hb hab (.inl ha) e
theorem pairsOk_next {l : List Rep} {i k : Nat} (hi : i < l.length) (hk : k < i) (h : PairsOk l i k) (e : l[i].id = (l[k]'(by omega)).id → l[i] = l[k]'(by omega)) : PairsOk l i (k + 1) := fun a b ha hb hba hh he => by
  by_cases hb2 : a = i ∧ b = k
  · obtain ⟨rfl, rfl⟩ := hb2
    exact e he
  · exact h a b ha hb hba (by omega) he
theorem pairsOk_row {l : List Rep} {i : Nat} (h : PairsOk l i i) : PairsOk l (i + 1) 0 := fun a b ha hb hba hh he => h a b ha hb hba (by omega) he

set_option maxRecDepth 100000 in
set_option maxHeartbeats 4000000 in
theorem check3_any (l : List Rep) (A : Option Addr) (c : Nat) (w : World) (h : Reps w w.heap.size A l) (hl : l.length ≤ maxLen) (hwf : ∀ r ∈ l, RepWf r) :
    Calls Tryz.prog 38 #[.slice A l.length c] w fun e w' => e = .returned (.int .i64 (checkV l)) ∧ Below w.heap.size w w' := by
  unfold maxLen at hl
  by_cases h60 : 60 < l.length
  · have hi : (60 : Int) < (l.length : Int) := by omega
    have Hv : Hid (checkV l = 4) := Lib.hid (by unfold checkV; rw [if_pos h60])
    clear h hwf
    go_enter Tryz.func38, Tryz.ntmps38
    go_wp2_with fail
    go_ret
    exact ⟨by rw [Hv.out]; rfl, Below.refl _ _⟩
  · have hi : ¬ (60 : Int) < (l.length : Int) := by omega
    have HR := Lib.hid (fun W r (hr : r ∈ l) => valid3_any r W (hwf r hr).kind)
    clear hwf
    go_enter Tryz.func38, Tryz.ntmps38
    go_wp2_with fail
    go_loopw [3] (fun ii wr => ∃ i : Nat, i ≤ l.length ∧ ii = .int .i64 i ∧ Hid ((∀ r ∈ l.take i, validB r = true) ∧ Below w.heap.size w wr)) (fun ii _ => l.length - (vInt ii).toNat)
    case atStart => exact ⟨0, Nat.zero_le _, rfl, Lib.hid ⟨fun r hr => by simp at hr, Below.refl _ _⟩⟩
    case round =>
      obtain ⟨i, hi2, rfl, hR⟩ := hrel
      by_cases hlt : i < l.length
      · as_aux_lemma =>
        have hil : (i : Int) < (l.length : Int) := by omega
        obtain ⟨hV, hB⟩ := hR.out
        obtain ⟨b, off, rfl, hb, C⟩ := (h.later hB).eight hlt
        have hri : l[i] ∈ l := List.getElem_mem hlt
        have HT : Hid (l.take (i + 1) = l.take i ++ [l[i]]) := Lib.hid (List.take_succ_eq_append_getElem hlt)
        generalize l[i] = r at *
        obtain ⟨c0, c1, c2, c3, c4, c5, c6, c7⟩ := C
        have HC := Lib.hid (HR.out wr r hri)
        cases hv : validB r with
        | false =>
          rw [hv] at HC
          have Hv : Hid (checkV l = 30) := Lib.hid (by
            unfold checkV
            rw [if_neg h60, if_neg (by rw [List.all_eq_true]; intro e; rw [e r hri] at hv; cases hv)])
          clear hR hV hv HT
          go_wp2_with (go_at_call 62; (with_reducible refine (HC.out).mono ?_); rintro e w2 ⟨rfl, h2⟩)
          go_ret
          exact ⟨by rw [Hv.out]; rfl, hB.trans (h2.mono hB.size)⟩
        | true =>
          rw [hv] at HC
          have HV : Hid (∀ q ∈ l.take (i + 1), validB q = true) := Lib.hid (fun q hq => by
            rw [HT.out] at hq
            rcases List.mem_append.1 hq with hq | hq
            · exact hV q hq
            · simp only [List.mem_cons, List.not_mem_nil, or_false] at hq
              rw [hq]; exact hv)
          clear hR hV hv HT
          go_wp2_with (go_at_call 62; (with_reducible refine (HC.out).mono ?_); rintro e w2 ⟨rfl, h2⟩)
          have hfin := hB.trans (h2.mono hB.size)
          go_roundw
          case rel => exact ⟨i + 1, by omega, by go_num, Lib.hid ⟨HV.out, hfin⟩⟩
          case measure => simp [vInt]; omega
      · have hil : ¬ (i : Int) < (l.length : Int) := by omega
        obtain ⟨hV, hB⟩ := hR.out
        rw [List.take_of_length_le (by omega)] at hV
        have hall : l.all validB = true := List.all_eq_true.2 hV
        have H31 : Hid (clashB l = true → checkV l = 31) := Lib.hid (fun hc => by unfold checkV; rw [if_neg h60, if_pos hall, if_pos hc])
        have H0 : Hid (clashB l = false → checkV l = 0) := Lib.hid (fun hc => by unfold checkV; rw [if_neg h60, if_pos hall, hc]; rfl)
        have h9 := h.later hB
        obtain ⟨W9, rfl⟩ : ∃ W9 : World, W9 = wr := ⟨_, rfl⟩
        clear hR hV hall HR
        go_wp2_with fail
        go_loopw [4] (fun ii wr => ∃ i : Nat, i ≤ l.length ∧ ii = .int .i64 i ∧ Hid (PairsOk l i 0 ∧ Below W9.heap.size W9 wr)) (fun ii _ => l.length - (vInt ii).toNat)
        case atStart => exact ⟨0, Nat.zero_le _, rfl, Lib.hid ⟨fun a b ha hb hba hh => by omega, Below.refl _ _⟩⟩
        case round =>
          obtain ⟨i, hi2, rfl, hR⟩ := hrel
          by_cases hlt : i < l.length
          · as_aux_lemma =>
            have hil : (i : Int) < (l.length : Int) := by omega
            go_wp2_with fail
            go_loopw [5] (fun kk wr => ∃ k : Nat, k ≤ i ∧ kk = .int .i64 k ∧ Hid (PairsOk l i k ∧ Below W9.heap.size W9 wr)) (fun kk _ => i - (vInt kk).toNat)
            case atStart => exact ⟨0, Nat.zero_le _, rfl, hR⟩
            case round =>
              obtain ⟨k, hk, rfl, hQ⟩ := hrel
              clear hR
              by_cases hki : k < i
              · as_aux_lemma =>
                have hkil : (k : Int) < (i : Int) := by omega
                have hkl : (k : Int) < (l.length : Int) := by omega
                have hklt : k < l.length := by omega
                obtain ⟨hP, hB2⟩ := hQ.out
                obtain ⟨b, off, rfl, hb, C⟩ := (h9.later hB2).eight hlt
                obtain ⟨_, _, e2, _, C2⟩ := (h9.later hB2).eight hklt
                cases e2
                have HN := Lib.hid (pairsOk_next hlt hki hP)
                have HCl : Hid (l[i].id = l[k].id → l[i] ≠ l[k] → clashB l = true) := Lib.hid (fun e1 e2 => by
                  cases hc : clashB l with
                  | true => rfl
                  | false => exact absurd (clashB_iff.1 hc _ (List.getElem_mem hlt) _ (List.getElem_mem hklt) e1) e2)
                generalize l[i] = r at *
                generalize l[k] = s at *
                go_upto_region 14 with fail
                have d0 := After.cell (B := wr.heap.size) C.c0 hb
                have d1 := After.cell (B := wr.heap.size) C.c1 hb
                have d2 := After.cell (B := wr.heap.size) C.c2 hb
                have d3 := After.cell (B := wr.heap.size) C.c3 hb
                have d4 := After.cell (B := wr.heap.size) C.c4 hb
                have d5 := After.cell (B := wr.heap.size) C.c5 hb
                have d6 := After.cell (B := wr.heap.size) C.c6 hb
                have d7 := After.cell (B := wr.heap.size) C.c7 hb
                have g0 := After.cell (B := wr.heap.size) C2.c0 hb
                have g1 := After.cell (B := wr.heap.size) C2.c1 hb
                have g2 := After.cell (B := wr.heap.size) C2.c2 hb
                have g3 := After.cell (B := wr.heap.size) C2.c3 hb
                have g4 := After.cell (B := wr.heap.size) C2.c4 hb
                have g5 := After.cell (B := wr.heap.size) C2.c5 hb
                have g6 := After.cell (B := wr.heap.size) C2.c6 hb
                have g7 := After.cell (B := wr.heap.size) C2.c7 hb
                clear C C2 hP hQ
                by_cases hid : r.id = s.id
                · have e1 : (r.id == s.id) = true := by simp [hid]
                  by_cases hrs : r = s
                  · have HP2 := Lib.hid (HN.out (fun _ => hrs))
                    clear hid HN HCl
                    subst hrs
                    refine wp_region_class_lit (C := fun w' => ∃ z : After wr.heap.size wr, w' = z.val) (by kernel_rfl) (by kernel_rfl) ⟨⟨_, (Below.refl _ _).drew⟩, rfl⟩ ?_
                    repeat (go_big_quiet_step (fail))
                    refine wpQuiet_nil ?_
                    intro wq hw'
                    obtain ⟨⟨wz, hz⟩, hw''⟩ := hw'
                    dsimp only at hw''
                    subst hw''
                    have hfin := hB2.trans (hz.mono hB2.size)
                    go_wp2_with fail
                    go_roundw
                    case rel => exact ⟨k + 1, by omega, by go_num, Lib.hid ⟨HP2.out, hfin⟩⟩
                    case measure => simp [vInt]; omega
                  · have Hv := Lib.hid (H31.out (HCl.out hid hrs))
                    have hd : (r.src ≠ s.src) ∨ (r.src = s.src ∧ r.acc ≠ s.acc) ∨ (r.src = s.src ∧ r.acc = s.acc ∧ r.made ≠ s.made) ∨ (r.src = s.src ∧ r.acc = s.acc ∧ r.made = s.made ∧ r.about ≠ s.about) ∨ (r.src = s.src ∧ r.acc = s.acc ∧ r.made = s.made ∧ r.about = s.about ∧ r.kind ≠ s.kind) ∨ (r.src = s.src ∧ r.acc = s.acc ∧ r.made = s.made ∧ r.about = s.about ∧ r.kind = s.kind ∧ r.cents ≠ s.cents) ∨ (r.src = s.src ∧ r.acc = s.acc ∧ r.made = s.made ∧ r.about = s.about ∧ r.kind = s.kind ∧ r.cents = s.cents ∧ r.of_ ≠ s.of_) := by
                      obtain ⟨r0, r1, r2, r3, r4, r5, r6, r7⟩ := r
                      obtain ⟨s0, s1, s2, s3, s4, s5, s6, s7⟩ := s
                      simp only at hid hrs ⊢
                      subst hid
                      simp only [Rep.mk.injEq, true_and] at hrs
                      omega
                    clear hrs hid HN HCl
                    rcases hd with a0 | ⟨a0, a1⟩ | ⟨a0, a1, a2⟩ | ⟨a0, a1, a2, a3⟩ | ⟨a0, a1, a2, a3, a4⟩ | ⟨a0, a1, a2, a3, a4, a5⟩ | ⟨a0, a1, a2, a3, a4, a5, a6⟩
                    all_goals (
                      refine wp_region_class_lit (C := fun w' => ∃ z : After wr.heap.size wr, w' = z.val) (by kernel_rfl) (by kernel_rfl) ⟨⟨_, (Below.refl _ _).drew⟩, rfl⟩ ?_
                      repeat (go_big_quiet_step (fail))
                      refine wpQuiet_nil ?_
                      intro wq hw'
                      obtain ⟨⟨wz, hz⟩, hw''⟩ := hw'
                      dsimp only at hw''
                      subst hw''
                      have hfin := hB.trans ((hB2.trans (hz.mono hB2.size)).mono hB.size)
                      go_wp2_with fail
                      go_ret
                      exact ⟨by rw [Hv.out]; rfl, hfin⟩)
                · have e1 : (r.id == s.id) = false := by simpa using hid
                  have HP2 := Lib.hid (HN.out (fun e => absurd e hid))
                  clear hid HN HCl
                  refine wp_region_class_lit (C := fun w' => ∃ z : After wr.heap.size wr, w' = z.val) (by kernel_rfl) (by kernel_rfl) ⟨⟨_, (Below.refl _ _).drew⟩, rfl⟩ ?_
                  repeat (go_big_quiet_step (fail))
                  refine wpQuiet_nil ?_
                  intro wq hw'
                  obtain ⟨⟨wz, hz⟩, hw''⟩ := hw'
                  dsimp only at hw''
                  subst hw''
                  have hfin := hB2.trans (hz.mono hB2.size)
                  go_wp2_with fail
                  go_roundw
                  case rel => exact ⟨k + 1, by omega, by go_num, Lib.hid ⟨HP2.out, hfin⟩⟩
                  case measure => simp [vInt]; omega
              · have hkil : ¬ (k : Int) < (i : Int) := by omega
                have HP2 : Hid (PairsOk l (i + 1) 0 ∧ Below W9.heap.size W9 wr) := Lib.hid ⟨by
                  have q := hQ.out.1
                  rw [show k = i by omega] at q
                  exact pairsOk_row q, hQ.out.2⟩
                clear hQ
                go_wp2_with fail
                go_roundw
                case rel => exact ⟨i + 1, by omega, by go_num, HP2⟩
                case measure => simp [vInt]; omega
          · have hil : ¬ (i : Int) < (l.length : Int) := by omega
            have Hv : Hid (checkV l = 0) := Lib.hid (H0.out (pairsOk_end (by have q := hR.out.1; rw [show i = l.length by omega] at q; exact q)))
            have hfin := hB.trans (hR.out.2.mono hB.size)
            clear hR
            go_wp2_with fail
            go_ret
            exact ⟨by rw [Hv.out]; rfl, hfin⟩

end Go.Proofs.YtkpaikampmeooaaGreatDoor
