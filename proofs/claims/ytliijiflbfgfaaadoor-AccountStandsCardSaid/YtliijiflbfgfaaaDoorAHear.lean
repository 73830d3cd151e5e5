/- Reports of accounts, as plain data: what the program keeps while it goes through withdrawals and corrections, one after the other, and what it has at the end. -/
import Derived.Test.YtliijiflbfgfaaaDoorARep

namespace Go.Proofs.YtliijiflbfgfaaaDoor

/-! The least number of some. -/
theorem minV_spec {A : List Rep} (h0 : ∀ r ∈ A, 0 ≤ r.id) : (A = [] ∧ A.foldl lessId (-1) = -1) ∨ ∃ w ∈ A, A.foldl lessId (-1) = w.id ∧ ∀ v ∈ A, w.id ≤ v.id := by
  cases A with
  | nil => exact .inl ⟨rfl, rfl⟩
  | cons w ws =>
    right
    have hw0 := h0 w (by simp)
    have e : lessId (-1) w = w.id := by unfold lessId; rw [if_pos (.inl (by omega))]
    rw [List.foldl_cons, e]
    rcases lessId_le ws w.id hw0 with ⟨h1, h2, h3⟩ | ⟨v, hv, h4⟩
    · have hall : ∀ v ∈ w :: ws, ws.foldl lessId w.id ≤ v.id := fun v hv => by
        rcases List.mem_cons.1 hv with rfl | hv
        · exact h1
        · exact h2 v hv
      rcases h3 with h3 | ⟨v, hv, h3⟩
      · exact ⟨w, by simp, h3, fun v hv => by rw [← h3]; exact hall v hv⟩
      · exact ⟨v, by simp [hv], h3, fun u hu => by rw [← h3]; exact hall u hu⟩
    · exact absurd h4 (by have := h0 v (by simp [hv]); omega)
theorem minV_perm {A B : List Rep} (h : A.Perm B) (h0 : ∀ r ∈ A, 0 ≤ r.id) : A.foldl lessId (-1) = B.foldl lessId (-1) := by
  have h0' : ∀ r ∈ B, 0 ≤ r.id := fun r hr => h0 r (h.mem_iff.2 hr)
  rcases minV_spec h0 with ⟨rfl, h1⟩ | ⟨w, hw, h1, h2⟩
  · obtain rfl := List.Perm.nil_eq h
    rfl
  · rcases minV_spec h0' with ⟨rfl, _⟩ | ⟨v, hv, h3, h4⟩
    · exact absurd (h.mem_iff.1 hw) (by simp)
    · rw [h1, h3]
      have q1 := h2 v (h.mem_iff.2 hv)
      have q2 := h4 w (h.mem_iff.1 hw)
      omega

/-! Withdrawals, one after the other. -/
def wdP (K ws : List Rep) (id : Int) : Int := (ws.filter (wdB K id)).foldl lessId (-1)
theorem wdP_nil (K : List Rep) (id : Int) : wdP K [] id = -1 := rfl
theorem wdP_step (K ws : List Rep) (w : Rep) (id : Int) : wdP K (ws ++ [w]) id = if wdB K id w = true then lessId (wdP K ws id) w else wdP K ws id := by
  unfold wdP
  rw [List.filter_append, List.foldl_append]
  by_cases h : wdB K id w = true
  · rw [if_pos h]; simp [h]
  · rw [if_neg h]; simp [h]
theorem wdP_end {K ws : List Rep} (h0 : ∀ r ∈ K, 0 ≤ r.id) (hp : ws.Perm (K.filter fun r => decide (r.kind = 9))) (id : Int) : wdP K ws id = wdV K id := by
  unfold wdP wdV
  have e : K.filter (wdB K id) = (K.filter fun r => decide (r.kind = 9)).filter (wdB K id) := by
    rw [List.filter_filter]
    refine List.filter_congr fun r _ => ?_
    cases h : wdB K id r with
    | false => simp
    | true =>
      unfold wdB at h
      simp only [Bool.and_eq_true, decide_eq_true_eq] at h
      simp [h.1.1.1]
  rw [e]
  exact minV_perm (hp.filter _) (fun r hr => h0 r (List.mem_filter.1 (hp.mem_iff.1 (List.mem_filter.1 hr).1)).1)
/-- Whether a withdrawal works: the report that it names is known, is no withdrawal, and is of the same source and account. -/
def worksW (K : List Rep) (w : Rep) : Bool := aimsB K w && !decide (kindAt K w.of_ = 9)
theorem wdB_of (K : List Rep) (id : Int) (w : Rep) (hk : w.kind = 9) : wdB K id w = (decide (w.of_ = id) && worksW K w) := by
  unfold wdB worksW
  by_cases h : w.of_ = id
  · subst h; simp [hk, Bool.and_comm]
  · simp [h]

/-! Corrections, one after the other. -/
theorem last_perm {A B : List Rep} (h : A.Perm B) (hn : (A.map Rep.id).Nodup) : A.foldl corStep none = B.foldl corStep none := by
  rcases last_spec A with ⟨h1, rfl⟩ | ⟨m, hm, h1, h2⟩
  · obtain rfl := List.Perm.nil_eq h
    rfl
  · rcases last_spec B with ⟨_, rfl⟩ | ⟨m', hm', h3, h4⟩
    · exact absurd (h.mem_iff.1 hm) (by simp)
    · rw [h1, h3, last_unique hn hm (h.mem_iff.2 hm') h2 (fun c hc => h4 c (h.mem_iff.1 hc))]
def corP (K cs : List Rep) (id : Int) : Option Rep := (cs.filter (corB K id)).getLast?
theorem corP_nil (K : List Rep) (id : Int) : corP K [] id = none := rfl
theorem corP_step (K cs : List Rep) (c : Rep) (id : Int) : corP K (cs ++ [c]) id = if corB K id c = true then some c else corP K cs id := by
  unfold corP
  rw [List.filter_append]
  by_cases h : corB K id c = true
  · rw [if_pos h]; simp [h]
  · rw [if_neg h]; simp [h]
/-- Those that are left, and are of one kind. -/
def leftK (K : List Rep) (kind : Int) : List Rep := K.filter fun r => decide (r.kind = kind) && decide (wdV K r.id < 0)
theorem corP_end {K cs : List Rep} (hn : (K.map Rep.id).Nodup) (hp : cs.Perm (leftK K 8)) (hs : cs.Pairwise fun a b => laterB b a = true) (id : Int) : corP K cs id = corV K id := by
  unfold corP corV
  have e : K.filter (corB K id) = (leftK K 8).filter (corB K id) := by
    unfold leftK
    rw [List.filter_filter]
    refine List.filter_congr fun r _ => ?_
    cases h : corB K id r with
    | false => simp
    | true =>
      unfold corB at h
      simp only [Bool.and_eq_true, decide_eq_true_eq] at h
      simp [h.1.1.1.1, h.1.2]
  have hp2 : (cs.filter (corB K id)).Perm (K.filter (corB K id)) := by rw [e]; exact hp.filter _
  have hn2 : ((K.filter (corB K id)).map Rep.id).Nodup := hn.sublist (List.filter_sublist.map Rep.id)
  rw [← last_sorted (hs.filter _), last_perm hp2 ((hp2.map Rep.id).nodup_iff.2 hn2)]

/-! What became of a report. -/
/-- As the document has it: what became of it, and by which other one; none: it is not known. -/
def fateV (K : List Rep) (id : Int) : Option (Int × Int) := match atR K id with
  | none => none
  | some r =>
    if r.kind = 9 then some (if worksW K r = true then 4 else 3, -1)
    else if 0 ≤ wdV K id then some (2, wdV K id)
    else if r.kind = 8 then
      some (match atR K r.of_ with
        | none => 3
        | some s => if s.kind ≤ 7 ∧ wdV K r.of_ < 0 ∧ (corV K r.of_).map Rep.id = some id then 4 else 3, -1)
    else match corV K id with
      | some c => some (1, c.id)
      | none => some (0, -1)
/-- The correction that the program keeps of a number: of a fact that is left. -/
def corK (K : List Rep) (id : Int) : Option Rep := match atR K id with
  | none => none
  | some r => if factB K r = true then corV K id else none
/-- Whether the program notes that a report works. -/
def worksB (K : List Rep) (id : Int) : Bool := K.any fun r => decide (r.id = id) && ((decide (r.kind = 9) && worksW K r) || (K.any fun s => decide ((corK K s.id).map Rep.id = some id)))
/-- As the program has it. -/
def fateP (K : List Rep) (id : Int) : Option (Int × Int) :=
  if 0 ≤ wdV K id then some (2, wdV K id)
  else match atR K id with
    | none => none
    | some r => match corK K id with
      | some c => some (1, c.id)
      | none => if r.kind ≤ 7 then some (0, -1) else if worksB K id = true then some (4, -1) else some (3, -1)
theorem corV_some {K : List Rep} {id : Int} {c : Rep} (h : corV K id = some c) : c ∈ K ∧ corB K id c = true := by
  unfold corV at h
  rcases last_spec (K.filter (corB K id)) with ⟨h1, _⟩ | ⟨m, hm, h1, _⟩
  · rw [h1] at h; cases h
  · rw [h1] at h
    obtain rfl := Option.some.inj h
    exact List.mem_filter.1 hm
theorem wd_known {K : List Rep} (h0 : ∀ r ∈ K, 0 ≤ r.id) {id : Int} (h : 0 ≤ wdV K id) : ∃ r, atR K id = some r ∧ r.kind ≠ 9 := by
  obtain ⟨w, _, hb⟩ := (wdV_iff h0 id).1 h
  unfold wdB at hb
  simp only [Bool.and_eq_true, decide_eq_true_eq, Bool.not_eq_true', decide_eq_false_iff_not] at hb
  obtain ⟨⟨⟨_, h2⟩, h3⟩, h4⟩ := hb
  unfold aimsB at h4
  rw [h2] at h4
  cases he : atR K id with
  | none => rw [he] at h4; cases h4
  | some r =>
    refine ⟨r, rfl, fun e => h3 ?_⟩
    unfold kindAt
    rw [he]
    exact e
theorem id_eq {K : List Rep} (hn : (K.map Rep.id).Nodup) {r s : Rep} (hr : r ∈ K) (hs : s ∈ K) (e : r.id = s.id) : r = s := by
  have a1 := atR_mem hn hr
  have a2 := atR_mem hn hs
  rw [e, a2] at a1
  exact (Option.some.inj a1).symm
theorem corK_some {K : List Rep} {id : Int} {c : Rep} (h : corK K id = some c) : ∃ r, atR K id = some r ∧ factB K r = true ∧ corV K id = some c := by
  unfold corK at h
  cases he : atR K id with
  | none => rw [he] at h; cases h
  | some r =>
    rw [he] at h
    dsimp only at h
    by_cases hf : factB K r = true
    · rw [if_pos hf] at h; exact ⟨r, rfl, hf, h⟩
    · rw [if_neg hf] at h; cases h
theorem worksB_w {K : List Rep} (hn : (K.map Rep.id).Nodup) {r : Rep} (hr : r ∈ K) (hk : r.kind = 9) : worksB K r.id = worksW K r := by
  rw [Bool.eq_iff_iff]
  unfold worksB
  rw [List.any_eq_true]
  constructor
  · rintro ⟨q, hq, h⟩
    simp only [Bool.and_eq_true, Bool.or_eq_true, decide_eq_true_eq, List.any_eq_true] at h
    obtain rfl := id_eq hn hq hr h.1
    rcases h.2 with h2 | ⟨s, _, h2⟩
    · exact h2.2
    · cases hc : corK K s.id with
      | none => rw [hc] at h2; cases h2
      | some c =>
        rw [hc] at h2
        obtain ⟨_, _, _, hv⟩ := corK_some hc
        obtain ⟨hcK, hb⟩ := corV_some hv
        have e : c.id = q.id := by simpa using h2
        obtain rfl := id_eq hn hcK hq e
        unfold corB at hb
        simp only [Bool.and_eq_true, decide_eq_true_eq] at hb
        have := hb.1.1.1.1
        omega
  · intro h
    exact ⟨r, hr, by simp [hk, h]⟩
theorem worksB_c {K : List Rep} (hn : (K.map Rep.id).Nodup) {r : Rep} (hr : r ∈ K) (hk : r.kind = 8) : worksB K r.id = true ↔ ∃ s, atR K r.of_ = some s ∧ s.kind ≤ 7 ∧ wdV K r.of_ < 0 ∧ (corV K r.of_).map Rep.id = some r.id := by
  unfold worksB
  rw [List.any_eq_true]
  constructor
  · rintro ⟨q, hq, h⟩
    simp only [Bool.and_eq_true, Bool.or_eq_true, decide_eq_true_eq, List.any_eq_true] at h
    obtain rfl := id_eq hn hq hr h.1
    rcases h.2 with h2 | ⟨s, hs, h2⟩
    · omega
    · cases hc : corK K s.id with
      | none => rw [hc] at h2; cases h2
      | some c =>
        rw [hc] at h2
        obtain ⟨s', h3, hf, hv⟩ := corK_some hc
        obtain ⟨hcK, hb⟩ := corV_some hv
        have e : c.id = q.id := by simpa using h2
        obtain rfl := id_eq hn hcK hq e
        unfold corB at hb
        simp only [Bool.and_eq_true, decide_eq_true_eq] at hb
        have ho := hb.1.1.1.2
        rw [atR_mem hn hs] at h3
        obtain rfl := Option.some.inj h3
        unfold factB at hf
        simp only [Bool.and_eq_true, decide_eq_true_eq] at hf
        rw [ho]
        exact ⟨s, atR_mem hn hs, hf.1, hf.2, by rw [hv]; rfl⟩
  · rintro ⟨s, h1, h2, h3, h4⟩
    obtain ⟨hs, e⟩ := atR_some h1
    refine ⟨r, hr, ?_⟩
    simp only [Bool.and_eq_true, Bool.or_eq_true, decide_eq_true_eq, List.any_eq_true, true_and]
    refine .inr ⟨s, hs, ?_⟩
    have hf : factB K s = true := by
      unfold factB
      simp only [Bool.and_eq_true, decide_eq_true_eq]
      exact ⟨h2, by rw [e]; exact h3⟩
    unfold corK
    rw [atR_mem hn hs]
    dsimp only
    rw [if_pos hf, e]
    exact h4
theorem fate_eq {K : List Rep} (hn : (K.map Rep.id).Nodup) (h0 : ∀ r ∈ K, 0 ≤ r.id) (hk : ∀ r ∈ K, r.kind ≤ 9) (id : Int) : fateP K id = fateV K id := by
  unfold fateP fateV
  by_cases hw : 0 ≤ wdV K id
  · obtain ⟨r, hr, h9⟩ := wd_known h0 hw
    rw [if_pos hw, hr]
    dsimp only
    rw [if_neg h9, if_pos hw]
  · rw [if_neg hw]
    cases hr : atR K id with
    | none => rfl
    | some r =>
      obtain ⟨hrK, rfl⟩ := atR_some hr
      dsimp only
      have hk9 := hk r hrK
      by_cases hf : r.kind ≤ 7
      · have hfb : factB K r = true := by
          unfold factB
          simp only [Bool.and_eq_true, decide_eq_true_eq]
          exact ⟨hf, by omega⟩
        have hc : corK K r.id = corV K r.id := by
          unfold corK
          rw [hr]
          dsimp only
          rw [if_pos hfb]
        rw [hc, if_neg (show ¬ r.kind = 9 by omega), if_neg hw, if_neg (show ¬ r.kind = 8 by omega)]
        cases corV K r.id with
        | none => dsimp only; rw [if_pos hf]
        | some c => rfl
      · have hfb : ¬ factB K r = true := by
          unfold factB
          simp only [Bool.and_eq_true, decide_eq_true_eq]
          omega
        have hc : corK K r.id = none := by
          unfold corK
          rw [hr]
          dsimp only
          rw [if_neg hfb]
        rw [hc]
        dsimp only
        rw [if_neg hf]
        by_cases h9 : r.kind = 9
        · rw [if_pos h9, worksB_w hn hrK h9]
          by_cases hww : worksW K r = true
          · rw [if_pos hww, if_pos hww]
          · rw [if_neg hww, if_neg hww]
        · have h8 : r.kind = 8 := by omega
          rw [if_neg h9, if_neg hw, if_pos h8]
          have hb := worksB_c hn hrK h8
          by_cases hww : worksB K r.id = true
          · rw [if_pos hww]
            obtain ⟨s, h1, h2, h3, h4⟩ := hb.1 hww
            rw [h1]
            dsimp only
            rw [if_pos ⟨h2, h3, h4⟩]
          · rw [if_neg hww]
            cases h1 : atR K r.of_ with
            | none => rfl
            | some s =>
              dsimp only
              rw [if_neg fun h => hww (hb.2 ⟨s, h1, h.1, h.2.1, h.2.2⟩)]

end Go.Proofs.YtliijiflbfgfaaaDoor
