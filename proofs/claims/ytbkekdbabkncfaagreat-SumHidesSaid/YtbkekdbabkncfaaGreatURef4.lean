/- Whether a table is valid, by the reference. -/
import Derived.Test.YtbkekdbabkncfaaGreatURef3

namespace Go.Proofs.YtbkekdbabkncfaaGreat
open Go.RowKit Go.Maps

theorem subs_at {w : World} {B : Nat} {A : Option Addr} {l : List SubD} (h : SubsAt w B A l) {k : Nat} (hk : k < l.length) : ∃ b off, A = some ⟨b, off, none⟩ ∧ b < B ∧ w.cell? ⟨b, off + k * 2, none⟩ = some (.int .i64 l[k].v.id) ∧ w.cell? ⟨b, off + k * 2 + 1, none⟩ = some (.slice l[k].V l[k].v.vals.length l[k].c) ∧ Flat 1 intC w B l[k].V l[k].v.vals := by
  obtain ⟨b, off, e, h1, h2⟩ := h.row k hk
  exact ⟨b, off, e, h1, h2 0 (by omega), h2 1 (by omega), h.each _ (List.getElem_mem hk)⟩
theorem tab_bad1 {columns : Int} {l : List SubD} {i : Nat} (hi : i < l.length) (h : subB columns l[i].v = false) : tabE columns (l.map SubD.v) = 100 := by
  unfold tabE
  rw [if_neg]
  intro hb
  have := (ask_parts hb).2.2.1 _ (List.mem_map_of_mem (List.getElem_mem hi))
  rw [h] at this; cases this
theorem tab_bad2 {columns : Int} {l : List SubD} {i k : Nat} (hi : i < l.length) (hk : k < i) (h : l[k].v.id = l[i].v.id) : tabE columns (l.map SubD.v) = 100 := by
  unfold tabE
  rw [if_neg]
  intro hb
  have h2 := (ask_parts hb).2.2.2
  rw [List.map_map, List.Nodup, List.pairwise_map, List.pairwise_iff_getElem] at h2
  exact h2 k i (by omega) hi hk h
theorem tab_good {columns : Int} {l : List SubD} (h1 : inN columns 1 5 = true) (h2 : l.length ≤ 16) (h : ∀ j, (hj : j < l.length) → subB columns l[j].v = true ∧ ∀ k, (hk : k < j) → l[k].v.id ≠ l[j].v.id) : tabE columns (l.map SubD.v) = 0 := by
  unfold tabE
  rw [if_pos]
  unfold tabB
  simp only [Bool.and_eq_true, decide_eq_true_eq, List.all_eq_true, List.length_map]
  refine ⟨⟨⟨h1, h2⟩, fun s hs => ?_⟩, ?_⟩
  · obtain ⟨x, hx, rfl⟩ := List.mem_map.1 hs
    obtain ⟨j, hj, rfl⟩ := List.mem_iff_getElem.1 hx
    exact (h j hj).1
  · rw [List.map_map, List.Nodup, List.pairwise_map, List.pairwise_iff_getElem]
    exact fun k j hk hj hkj => (h j hj).2 k hkj
set_option maxRecDepth 100000 in
set_option maxHeartbeats 8000000 in
theorem check10_any (columns : Int) (l : List SubD) (L : Option Addr) (lc : Nat) (w : World) (hs : SubsAt w w.heap.size L l) (hl : l.length ≤ 24) :
    Calls Tryz.prog 57 #[.int .i64 columns, .slice L l.length lc] w fun e w' => e = .returned (.int .i64 (tabE columns (l.map SubD.v))) ∧ Below w.heap.size w w' := by
  have HC := Lib.hid (within10_any columns 1 5)
  cases q1 : inN columns 1 5 with
  | false =>
    rw [q1] at HC
    have HR : Hid (tabE columns (l.map SubD.v) = 100) := Lib.hid (by unfold tabE tabB; rw [q1]; simp)
    clear hs
    go_enter Tryz.func57, Tryz.ntmps57
    go_wp2_with (go_at_call 59; (with_reducible refine (HC.out _).mono ?_); rintro e w1 ⟨rfl, rfl⟩)
    go_ret
    exact ⟨by rw [HR.out]; rfl, Below.refl _ _⟩
  | true =>
    rw [q1] at HC
    by_cases q2 : l.length ≤ 16
    rotate_left
    · have HR : Hid (tabE columns (l.map SubD.v) = 100) := Lib.hid (by unfold tabE tabB; rw [List.length_map, decide_eq_false q2]; simp)
      have q2' : (16 : Int) < (l.length : Int) := by omega
      clear hs
      go_enter Tryz.func57, Tryz.ntmps57
      go_wp2_with (go_at_call 59; (with_reducible refine (HC.out _).mono ?_); rintro e w1 ⟨rfl, rfl⟩)
      go_ret
      exact ⟨by rw [HR.out]; rfl, Below.refl _ _⟩
    have q2' : ¬ (16 : Int) < (l.length : Int) := by omega
    have hcol := inN_iff.1 q1
    obtain ⟨N, rfl⟩ : ∃ N : Nat, columns = N := ⟨columns.toNat, by omega⟩
    have hN : 1 ≤ N ∧ N ≤ 5 := by omega
    have HB1 : Hid (∀ i, (h : i < l.length) → subB N l[i].v = false → tabE N (l.map SubD.v) = 100) := Lib.hid (fun i h => tab_bad1 h)
    have HB2 : Hid (∀ i k, (h : i < l.length) → (hk : k < i) → l[k].v.id = l[i].v.id → tabE N (l.map SubD.v) = 100) := Lib.hid (fun i k h hk => tab_bad2 h hk)
    have HGd : Hid ((∀ j, (hj : j < l.length) → subB N l[j].v = true ∧ ∀ k, (hk : k < j) → l[k].v.id ≠ l[j].v.id) → tabE N (l.map SubD.v) = 0) := Lib.hid (fun h => tab_good q1 q2 h)
    generalize tabE (N : Int) (l.map SubD.v) = R at *
    have HS := Lib.hid hs
    clear hs q1 hcol
    go_enter Tryz.func57, Tryz.ntmps57
    go_wp2_with (go_at_call 59; (with_reducible refine (HC.out _).mono ?_); rintro e w1 ⟨rfl, rfl⟩)
    clear HC
    go_loopw [5] (fun ii wr => ∃ i : Nat, i ≤ l.length ∧ ii = .int .i64 i ∧ Hid ((∀ j, (hj : j < l.length) → j < i → subB N l[j].v = true ∧ ∀ k, (hk : k < j) → l[k].v.id ≠ l[j].v.id) ∧ Below w.heap.size w wr)) (fun ii _ => l.length - (vInt ii).toNat)
    case atStart => exact ⟨0, Nat.zero_le _, rfl, Lib.hid ⟨fun j _ hj => by omega, Below.refl _ _⟩⟩
    case round =>
      obtain ⟨i, hi, rfl, hR⟩ := hrel
      obtain ⟨hJ, hB⟩ := hR.out
      clear hR
      by_cases hlt : i < l.length
      · have hil : (i : Int) < (l.length : Int) := by omega
        obtain ⟨b, off, rfl, hbw, c0w, c1w, hv⟩ := subs_at HS.out hlt
        have c0 := (hB.cell (p := ⟨b, off + i * 2, none⟩) hbw).trans c0w
        have c1 := (hB.cell (p := ⟨b, off + i * 2 + 1, none⟩) hbw).trans c1w
        have HI := Lib.hid (within10_any l[i].v.id 0 999999)
        have HF := Lib.hid (HB1.out i hlt)
        have hsub : subB N l[i].v = (inN l[i].v.id 0 999999 && decide ((l[i].v.vals.length : Int) = N) && l[i].v.vals.all fun v => inN v 0 1000000) := rfl
        have HV := Lib.hid hv
        have HJ := Lib.hid hJ
        clear hv hJ
        cases p1 : inN l[i].v.id 0 999999 with
        | false =>
          rw [p1] at HI
          have HR : Hid (R = 100) := Lib.hid (HF.out (by rw [hsub, p1]; simp))
          clear hsub HF p1
          go_wp2_with (go_at_call 59; (with_reducible refine (HI.out _).mono ?_); rintro e w1 ⟨rfl, rfl⟩)
          go_ret
          exact ⟨by rw [HR.out]; rfl, hB⟩
        | true =>
          rw [p1] at HI
          by_cases p2 : (l[i].v.vals.length : Int) = N
          rotate_left
          · have HR : Hid (R = 100) := Lib.hid (HF.out (by rw [hsub, decide_eq_false p2]; simp))
            have hne : ((l[i].v.vals.length : Int) != (N : Int)) = true := by simpa using p2
            clear hsub HF p1 p2
            go_wp2_with (go_at_call 59; (with_reducible refine (HI.out _).mono ?_); rintro e w1 ⟨rfl, rfl⟩)
            go_ret
            exact ⟨by rw [HR.out]; rfl, hB⟩
          have hne : ((l[i].v.vals.length : Int) != (N : Int)) = false := by rw [p2]; simp
          have hlen : Hid (l[i].v.vals.length = N) := Lib.hid (by omega)
          have HF2 : Hid ((l[i].v.vals.all fun v => inN v 0 1000000) = false → R = 100) := Lib.hid (fun h => HF.out (by rw [hsub, h]; simp))
          have HG2 : Hid ((l[i].v.vals.all fun v => inN v 0 1000000) = true → subB N l[i].v = true) := Lib.hid (fun h => by rw [hsub, h, p1, decide_eq_true p2]; rfl)
          clear hsub HF p1 p2
          go_wp2_with (go_at_call 59; (with_reducible refine (HI.out _).mono ?_); rintro e w1 ⟨rfl, rfl⟩)
          clear HI
          have HC0 := Lib.hid c0w
          have HC1 := Lib.hid c1w
          clear c0 c1 c0w c1w hne
          generalize hvn : l[i].v.vals.length = n1 at *
          have hvn' : Hid (l[i].v.vals.length = N) := Lib.hid (by have := hlen.out; omega)
          have hle1 : n1 ≤ N := by have := hlen.out; omega
          have hle2 : N ≤ n1 := by have := hlen.out; omega
          clear hvn hlen
          generalize l[i].V = VV at *
          go_loopw [6] (fun kk wq => ∃ k : Nat, k ≤ N ∧ kk = .int .i64 k ∧ Hid ((∀ j, j < k → inN (l[i].v.vals.getD j 0) 0 1000000 = true) ∧ Below w.heap.size w wq)) (fun kk _ => N - (vInt kk).toNat)
          case atStart => exact ⟨0, Nat.zero_le _, rfl, Lib.hid ⟨fun j hj => by omega, hB⟩⟩
          case round =>
            obtain ⟨k, hk, rfl, hR⟩ := hrel
            obtain ⟨hK, hBq⟩ := hR.out
            clear hR
            have c1 := (hBq.cell (p := ⟨b, off + i * 2 + 1, none⟩) hbw).trans HC1.out
            by_cases hkt : k < N
            · have hkl : (k : Int) < (N : Int) := by omega
              have hkn : (k : Int) < (n1 : Int) := by omega
              have hkv : k < l[i].v.vals.length := by have := hvn'.out; omega
              obtain ⟨b', off', rfl, hb', c3⟩ := ints_at (HV.out.below hBq) hkv
              have HP := Lib.hid (within10_any l[i].v.vals[k] 0 1000000)
              have HQ1 : Hid (inN l[i].v.vals[k] 0 1000000 = false → R = 100) := Lib.hid (fun h => HF2.out (by rw [List.all_eq_false]; exact ⟨_, List.getElem_mem hkv, by rw [h]; simp⟩))
              have HQ2 : Hid (inN l[i].v.vals[k] 0 1000000 = true → ∀ j, j < k + 1 → inN (l[i].v.vals.getD j 0) 0 1000000 = true) := Lib.hid (fun h j hj => by
                rcases Nat.lt_or_ge j k with h9 | h9
                · exact hK j h9
                · obtain rfl : j = k := by omega
                  rw [getD_lt _ _ hkv]; exact h)
              generalize l[i].v.vals[k] = v at *
              clear hK
              cases p : inN v 0 1000000 with
              | false =>
                rw [p] at HP
                have HR := Lib.hid (HQ1.out p)
                clear HQ1 HQ2 p
                go_wp2_with (go_at_call 59; (with_reducible refine (HP.out _).mono ?_); rintro e w1 ⟨rfl, rfl⟩)
                go_ret
                exact ⟨by rw [HR.out]; rfl, hBq⟩
              | true =>
                rw [p] at HP
                have HR := Lib.hid (HQ2.out p)
                clear HQ1 HQ2 p
                go_wp2_with (go_at_call 59; (with_reducible refine (HP.out _).mono ?_); rintro e w1 ⟨rfl, rfl⟩)
                go_roundw
                case rel => exact ⟨k + 1, by omega, by go_num, Lib.hid ⟨HR.out, hBq⟩⟩
                case measure => simp [vInt]; omega
            · have hkl : ¬ (k : Int) < (N : Int) := by omega
              have HOK : Hid (subB N l[i].v = true) := Lib.hid (HG2.out (by
                rw [List.all_eq_true]
                intro v hv
                obtain ⟨j, hj, rfl⟩ := List.mem_iff_getElem.1 hv
                have := hK j (by have := hvn'.out; omega)
                rw [getD_lt _ _ hj] at this
                exact this))
              clear hK c1 HF2 HG2
              go_wp2_with fail
              go_loopw [7] (fun kk wq => ∃ k : Nat, k ≤ i ∧ kk = .int .i64 k ∧ Hid ((∀ j, (h : j < l.length) → j < k → l[j].v.id ≠ l[i].v.id) ∧ Below w.heap.size w wq)) (fun kk _ => i - (vInt kk).toNat)
              case atStart => exact ⟨0, Nat.zero_le _, rfl, Lib.hid ⟨fun j _ hj => by omega, hBq⟩⟩
              case round =>
                obtain ⟨k2, hk2, rfl, hR⟩ := hrel
                obtain ⟨hD, hBd⟩ := hR.out
                clear hR
                have c0 := (hBd.cell (p := ⟨b, off + i * 2, none⟩) hbw).trans HC0.out
                by_cases hk2t : k2 < i
                · have hk2l : (k2 : Int) < (i : Int) := by omega
                  have hk2n : k2 < l.length := by omega
                  have hk2m : (k2 : Int) < (l.length : Int) := by omega
                  obtain ⟨b2, off2, e2, hb2, d0, _, _⟩ := subs_at HS.out hk2n
                  cases e2
                  have d0' := (hBd.cell (p := ⟨b, off + k2 * 2, none⟩) hb2).trans d0
                  have HX1 : Hid (l[k2].v.id = l[i].v.id → R = 100) := Lib.hid (HB2.out i k2 hlt hk2t)
                  have HX2 : Hid (l[k2].v.id ≠ l[i].v.id → ∀ j, (h : j < l.length) → j < k2 + 1 → l[j].v.id ≠ l[i].v.id) := Lib.hid (fun h j hj hjk => by
                    rcases Nat.lt_or_ge j k2 with h9 | h9
                    · exact hD j hj h9
                    · obtain rfl : j = k2 := by omega
                      exact h)
                  clear d0 hD
                  generalize l[k2].v.id = ik at d0' HX1 HX2
                  have HE : Hid ((ik == l[i].v.id) = true → R = 100) := Lib.hid (fun h => HX1.out (by simpa using h))
                  have HNE : Hid ((ik == l[i].v.id) = false → ∀ j, (h : j < l.length) → j < k2 + 1 → l[j].v.id ≠ l[i].v.id) := Lib.hid (fun h => HX2.out (by simpa using h))
                  clear HX1 HX2
                  have a0 := After.cell (B := wr.heap.size) c0 (Nat.lt_of_lt_of_le hbw hBd.size)
                  have a1 := After.cell (B := wr.heap.size) d0' (Nat.lt_of_lt_of_le hbw hBd.size)
                  clear c0 d0'
                  cases q : (ik == l[i].v.id) with
                  | true =>
                    have HR := Lib.hid (HE.out q)
                    clear HE HNE
                    go_upto_region 16 with fail
                    refine wp_region_class_lit (C := fun w' => ∃ z : After wr.heap.size wr, w' = z.val) (by kernel_rfl) (by kernel_rfl) ⟨⟨_, (Below.refl _ _).drew⟩, rfl⟩ ?_
                    repeat (go_big_quiet_step (fail))
                    refine wpQuiet_nil ?_
                    intro wz0 hw'
                    obtain ⟨⟨wz, hz⟩, hw''⟩ := hw'
                    dsimp only at hw''
                    subst hw''
                    clear a0 a1
                    go_wp2_with fail
                    go_ret
                    exact ⟨by rw [HR.out]; rfl, hBd.trans (hz.mono hBd.size)⟩
                  | false =>
                    have HR := Lib.hid (HNE.out q)
                    clear HE HNE
                    go_upto_region 16 with fail
                    refine wp_region_class_lit (C := fun w' => ∃ z : After wr.heap.size wr, w' = z.val) (by kernel_rfl) (by kernel_rfl) ⟨⟨_, (Below.refl _ _).drew⟩, rfl⟩ ?_
                    repeat (go_big_quiet_step (fail))
                    refine wpQuiet_nil ?_
                    intro wz0 hw'
                    obtain ⟨⟨wz, hz⟩, hw''⟩ := hw'
                    dsimp only at hw''
                    subst hw''
                    clear a0 a1
                    go_wp2_with fail
                    go_roundw
                    case rel => exact ⟨k2 + 1, by omega, by go_num, Lib.hid ⟨HR.out, hBd.trans (hz.mono hBd.size)⟩⟩
                    case measure => simp [vInt]; omega
                · have hk2l : ¬ (k2 : Int) < (i : Int) := by omega
                  have HJ2 : Hid (∀ j, (hj : j < l.length) → j < i + 1 → subB N l[j].v = true ∧ ∀ k, (hk : k < j) → l[k].v.id ≠ l[j].v.id) := Lib.hid (fun j hj hji => by
                    rcases Nat.lt_or_ge j i with h9 | h9
                    · exact HJ.out j hj h9
                    · obtain rfl : j = i := by omega
                      exact ⟨HOK.out, fun k hk => hD k (by omega) (by omega)⟩)
                  clear hD c0
                  go_wp2_with fail
                  go_roundw
                  case rel => exact ⟨i + 1, by omega, by go_num, Lib.hid ⟨HJ2.out, hBd⟩⟩
                  case measure => simp [vInt]; omega
      · have hil : ¬ (i : Int) < (l.length : Int) := by omega
        have HR : Hid (R = 0) := Lib.hid (HGd.out (fun j hj => hJ j hj (by omega)))
        clear hJ
        go_wp2_with fail
        go_ret
        exact ⟨by rw [HR.out]; rfl, hB⟩
end Go.Proofs.YtbkekdbabkncfaaGreat
