/- Whether a table and questions are great, by the reference. -/
import Derived.Test.YtbkekdbabkncfaaGreatURef4

namespace Go.Proofs.YtbkekdbabkncfaaGreat
open Go.RowKit Go.Maps

def grtB (l : List SubD) (q : List QueD) : Bool := decide (24 < l.length) || decide (12 < q.length) || (l.any fun x => decide (10 < x.v.vals.length)) || (q.any fun x => decide (10 < x.v.wheres.length))
theorem ques_at {w : World} {B : Nat} {A : Option Addr} {l : List QueD} (h : QuesAt w B A l) {k : Nat} (hk : k < l.length) : ∃ b off, A = some ⟨b, off, none⟩ ∧ b < B ∧ w.cell? ⟨b, off + k * 4, none⟩ = some (.slice l[k].W l[k].v.wheres.length l[k].c) ∧ w.cell? ⟨b, off + k * 4 + 1, none⟩ = some (.int .i64 l[k].v.col) ∧ w.cell? ⟨b, off + k * 4 + 2, none⟩ = some (.int .i64 l[k].v.clip) ∧ w.cell? ⟨b, off + k * 4 + 3, none⟩ = some (.int .i64 l[k].v.step) ∧ WhesAt w B l[k].W l[k].v.wheres := by
  obtain ⟨b, off, e, h1, h2⟩ := h.row k hk
  exact ⟨b, off, e, h1, h2 0 (by omega), h2 1 (by omega), h2 2 (by omega), h2 3 (by omega), h.each _ (List.getElem_mem hk)⟩
theorem grt_parts {l : List SubD} {q : List QueD} (h : grtB l q = false) : l.length ≤ 24 ∧ q.length ≤ 12 ∧ (∀ i, (hi : i < l.length) → l[i].v.vals.length ≤ 10) ∧ ∀ i, (hi : i < q.length) → q[i].v.wheres.length ≤ 10 := by
  unfold grtB at h
  simp only [Bool.or_eq_false_iff, decide_eq_false_iff_not, List.any_eq_false, decide_eq_true_eq] at h
  refine ⟨by omega, by omega, fun i hi => ?_, fun i hi => ?_⟩
  · have := h.1.2 _ (List.getElem_mem hi); omega
  · have := h.2 _ (List.getElem_mem hi); omega
set_option maxRecDepth 100000 in
set_option maxHeartbeats 8000000 in
theorem great10_any (l : List SubD) (L : Option Addr) (lc : Nat) (q : List QueD) (Q : Option Addr) (qc : Nat) (w : World) (hs : SubsAt w w.heap.size L l) (hq : QuesAt w w.heap.size Q q) (hm2 : (∀ x ∈ l, x.v.vals.length ≤ maxLen) ∧ ∀ x ∈ q, x.v.wheres.length ≤ maxLen) :
    Calls Tryz.prog 23 #[.slice L l.length lc, .slice Q q.length qc] w fun e w' => e = .returned (.bool (grtB l q)) ∧ Below w.heap.size w w' := by
  have HA : Hid (∀ i, (h : i < l.length) → 10 < l[i].v.vals.length → grtB l q = true) := Lib.hid (fun i h h1 => by
    unfold grtB
    have : (l.any fun x => decide (10 < x.v.vals.length)) = true := List.any_eq_true.2 ⟨_, List.getElem_mem h, by simpa using h1⟩
    rw [this]; simp)
  have HBq : Hid (∀ i, (h : i < q.length) → 10 < q[i].v.wheres.length → grtB l q = true) := Lib.hid (fun i h h1 => by
    unfold grtB
    have : (q.any fun x => decide (10 < x.v.wheres.length)) = true := List.any_eq_true.2 ⟨_, List.getElem_mem h, by simpa using h1⟩
    rw [this]; simp)
  have HG : Hid (l.length ≤ 24 → q.length ≤ 12 → (∀ i, (h : i < l.length) → ¬ 10 < l[i].v.vals.length) → (∀ i, (h : i < q.length) → ¬ 10 < q[i].v.wheres.length) → grtB l q = false) := Lib.hid (fun h1 h2 h3 h4 => by
    unfold grtB
    simp only [Bool.or_eq_false_iff, decide_eq_false_iff_not, List.any_eq_false, decide_eq_true_eq]
    refine ⟨⟨⟨by omega, by omega⟩, fun x hx => ?_⟩, fun x hx => ?_⟩
    · obtain ⟨i, hi, rfl⟩ := List.mem_iff_getElem.1 hx
      exact h3 i hi
    · obtain ⟨i, hi, rfl⟩ := List.mem_iff_getElem.1 hx
      exact h4 i hi)
  have hT1 : 24 < l.length → grtB l q = true := fun h => by unfold grtB; rw [decide_eq_true h]; simp
  have hT2 : 12 < q.length → grtB l q = true := fun h => by unfold grtB; rw [decide_eq_true h]; simp
  generalize grtB l q = R at *
  by_cases q1 : 24 < l.length
  · have HR := Lib.hid (hT1 q1)
    have q1' : (24 : Int) < (l.length : Int) := by omega
    clear hs hq hT1 hT2
    go_enter Tryz.func23, Tryz.ntmps23
    go_wp2_with fail
    go_ret
    exact ⟨ret_bool HR.out.symm, Below.refl _ _⟩
  have q1' : ¬ (24 : Int) < (l.length : Int) := by omega
  by_cases q2 : 12 < q.length
  · have HR := Lib.hid (hT2 q2)
    have q2' : (12 : Int) < (q.length : Int) := by omega
    clear hs hq hT1 hT2
    go_enter Tryz.func23, Tryz.ntmps23
    go_wp2_with fail
    go_ret
    exact ⟨by rw [HR.out]; rfl, Below.refl _ _⟩
  have q2' : ¬ (12 : Int) < (q.length : Int) := by omega
  have HS := Lib.hid hs
  have HQ := Lib.hid hq
  have HM := Lib.hid hm2
  clear hs hq hT1 hT2 hm2
  go_enter Tryz.func23, Tryz.ntmps23
  go_wp2_with fail
  go_loopw [5] (fun ii wr => ∃ i : Nat, i ≤ l.length ∧ ii = .int .i64 i ∧ Hid ((∀ j, (h : j < l.length) → j < i → ¬ 10 < l[j].v.vals.length) ∧ Below w.heap.size w wr)) (fun ii _ => l.length - (vInt ii).toNat)
  case atStart => exact ⟨0, Nat.zero_le _, rfl, Lib.hid ⟨fun j _ hj => by omega, Below.refl _ _⟩⟩
  case round =>
    obtain ⟨i, hi, rfl, hR⟩ := hrel
    obtain ⟨hJ, hB⟩ := hR.out
    clear hR
    by_cases hlt : i < l.length
    · have hil : (i : Int) < (l.length : Int) := by omega
      obtain ⟨b, off, rfl, hb, c0, c1, _⟩ := subs_at (HS.out.later hB) hlt
      have hml := HM.out.1 _ (List.getElem_mem hlt)
      have HF := Lib.hid (HA.out i hlt)
      have HN : Hid (¬ 10 < l[i].v.vals.length → ∀ j, (h : j < l.length) → j < i + 1 → ¬ 10 < l[j].v.vals.length) := Lib.hid (fun h8 j h hj => by
        rcases Nat.lt_or_ge j i with h9 | h9
        · exact hJ j h h9
        · obtain rfl : j = i := by omega
          exact h8)
      clear hJ
      generalize l[i].v.vals.length = n at *
      by_cases hn : 10 < n
      · have HR := Lib.hid (HF.out hn)
        have hn' : (10 : Int) < (n : Int) := by omega
        clear HF HN
        go_wp2_with fail
        go_ret
        exact ⟨by rw [HR.out]; rfl, hB⟩
      · have HR := Lib.hid (HN.out hn)
        have hn' : ¬ (10 : Int) < (n : Int) := by omega
        clear HF HN
        go_wp2_with fail
        go_roundw
        case rel => exact ⟨i + 1, by omega, by go_num, Lib.hid ⟨HR.out, hB⟩⟩
        case measure => simp [vInt]; omega
    · have hil : ¬ (i : Int) < (l.length : Int) := by omega
      have HL : Hid (∀ j, (h : j < l.length) → ¬ 10 < l[j].v.vals.length) := Lib.hid (fun j h => hJ j h (by omega))
      clear hJ
      go_wp2_with fail
      go_loopw [6] (fun ii wr => ∃ i : Nat, i ≤ q.length ∧ ii = .int .i64 i ∧ Hid ((∀ j, (h : j < q.length) → j < i → ¬ 10 < q[j].v.wheres.length) ∧ Below w.heap.size w wr)) (fun ii _ => q.length - (vInt ii).toNat)
      case atStart => exact ⟨0, Nat.zero_le _, rfl, Lib.hid ⟨fun j _ hj => by omega, hB⟩⟩
      case round =>
        obtain ⟨i, hi, rfl, hR⟩ := hrel
        obtain ⟨hJ, hB⟩ := hR.out
        clear hR
        by_cases hlt : i < q.length
        · have hil : (i : Int) < (q.length : Int) := by omega
          obtain ⟨b, off, rfl, hb, c0, c1, _, _, _⟩ := ques_at (HQ.out.later hB) hlt
          have hml := HM.out.2 _ (List.getElem_mem hlt)
          have HF := Lib.hid (HBq.out i hlt)
          have HN : Hid (¬ 10 < q[i].v.wheres.length → ∀ j, (h : j < q.length) → j < i + 1 → ¬ 10 < q[j].v.wheres.length) := Lib.hid (fun h8 j h hj => by
            rcases Nat.lt_or_ge j i with h9 | h9
            · exact hJ j h h9
            · obtain rfl : j = i := by omega
              exact h8)
          clear hJ
          generalize q[i].v.wheres.length = n at *
          by_cases hn : 10 < n
          · have HR := Lib.hid (HF.out hn)
            have hn' : (10 : Int) < (n : Int) := by omega
            clear HF HN
            go_wp2_with fail
            go_ret
            exact ⟨by rw [HR.out]; rfl, hB⟩
          · have HR := Lib.hid (HN.out hn)
            have hn' : ¬ (10 : Int) < (n : Int) := by omega
            clear HF HN
            go_wp2_with fail
            go_roundw
            case rel => exact ⟨i + 1, by omega, by go_num, Lib.hid ⟨HR.out, hB⟩⟩
            case measure => simp [vInt]; omega
        · have hil : ¬ (i : Int) < (q.length : Int) := by omega
          have HR := Lib.hid (HG.out (by omega) (by omega) HL.out (fun j h => hJ j h (by omega)))
          clear hJ
          go_wp2_with fail
          go_ret
          exact ⟨by rw [HR.out]; rfl, hB⟩
end Go.Proofs.YtbkekdbabkncfaaGreat
