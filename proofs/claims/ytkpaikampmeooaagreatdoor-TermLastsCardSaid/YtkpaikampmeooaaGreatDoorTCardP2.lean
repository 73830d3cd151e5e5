/- Reports of accounts, as plain data: what the program keeps while it goes through withdrawals and corrections, one after the other, and what it has at the end. -/
import Derived.Test.YtkpaikampmeooaaGreatDoorTCardP1
import Derived.Test.YtkpaikampmeooaaGreatDoorARef
import Derived.Test.YtkpaikampmeooaaGreatDoorAProg
import Derived.Laws.StructEq
import Derived.RangeFuncBox
import Derived.Maps.OwnIn
import Derived.Maps.OwnOps

namespace Go.Proofs.YtkpaikampmeooaaGreatDoor

/-! The least number of some. -/
theorem minV_spec {A : List Rep} (h0 : ∀ r ∈ A, 0 ≤ r.id) : (A = [] ∧ A.foldl lessId (-1) = -1) ∨ ∃ w ∈ A, A.foldl lessId (-1) = w.id ∧ ∀ v ∈ A, w.id ≤ v.id := by
  cases A with
  | nil => exact .inl ⟨rfl, rfl⟩
  | cons w ws =>
    right
    have hw0 := h0 w (by simp)
    have e : lessId (-1) w = w.id := by unfold lessId; rw [if_pos (.inl (by omega))]
    rw [List.foldl_cons, e]
    rcases lessId_le ws w.id hw0 with ⟨h1, h2, h3⟩ | ⟨v, hv, h4⟩
    · have hall : ∀ v ∈ w :: ws, ws.foldl lessId w.id ≤ v.id := fun v hv => by
        rcases List.mem_cons.1 hv with rfl | hv
        · exact h1
        · exact h2 v hv
      rcases h3 with h3 | ⟨v, hv, h3⟩
      · exact ⟨w, by simp, h3, fun v hv => by rw [← h3]; exact hall v hv⟩
      · exact ⟨v, by simp [hv], h3, fun u hu => by rw [← h3]; exact hall u hu⟩
    · exact absurd h4 (by have := h0 v (by simp [hv]); omega)
theorem minV_perm {A B : List Rep} (h : A.Perm B) (h0 : ∀ r ∈ A, 0 ≤ r.id) : A.foldl lessId (-1) = B.foldl lessId (-1) := by
  have h0' : ∀ r ∈ B, 0 ≤ r.id := fun r hr => h0 r (h.mem_iff.2 hr)
  rcases minV_spec h0 with ⟨rfl, h1⟩ | ⟨w, hw, h1, h2⟩
  · obtain rfl := List.Perm.nil_eq h
    rfl
  · rcases minV_spec h0' with ⟨rfl, _⟩ | ⟨v, hv, h3, h4⟩
    · exact absurd (h.mem_iff.1 hw) (by simp)
    · rw [h1, h3]
      have q1 := h2 v (h.mem_iff.2 hv)
      have q2 := h4 w (h.mem_iff.1 hw)
      omega

/-! Withdrawals, one after the other. -/
def wdP (K ws : List Rep) (id : Int) : Int := (ws.filter (wdB K id)).foldl lessId (-1)
theorem wdP_nil (K : List Rep) (id : Int) : wdP K [] id = -1 := rfl
theorem wdP_step (K ws : List Rep) (w : Rep) (id : Int) : wdP K (ws ++ [w]) id = if wdB K id w = true then lessId (wdP K ws id) w else wdP K ws id := by
  unfold wdP
  rw [List.filter_append, List.foldl_append]
  by_cases h : wdB K id w = true
  · rw [if_pos h]; simp [h]
  · rw [if_neg h]; simp [h]
theorem wdP_end {K ws : List Rep} (h0 : ∀ r ∈ K, 0 ≤ r.id) (hp : ws.Perm (K.filter fun r => decide (r.kind = 9))) (id : Int) : wdP K ws id = wdV K id := by
  unfold wdP wdV
  have e : K.filter (wdB K id) = (K.filter fun r => decide (r.kind = 9)).filter (wdB K id) := by
    rw [List.filter_filter]
    refine List.filter_congr fun r _ => ?_
    cases h : wdB K id r with
    | false => simp
    | true =>
      unfold wdB at h
      simp only [Bool.and_eq_true, decide_eq_true_eq] at h
      simp [h.1.1.1]
  rw [e]
  exact minV_perm (hp.filter _) (fun r hr => h0 r (List.mem_filter.1 (hp.mem_iff.1 (List.mem_filter.1 hr).1)).1)
/-- Whether a withdrawal works: the report that it names is known, is no withdrawal, and is of the same source and account. -/
def worksW (K : List Rep) (w : Rep) : Bool := aimsB K w && !decide (kindAt K w.of_ = 9)
theorem wdB_of (K : List Rep) (id : Int) (w : Rep) (hk : w.kind = 9) : wdB K id w = (decide (w.of_ = id) && worksW K w) := by
  unfold wdB worksW
  by_cases h : w.of_ = id
  · subst h; simp [hk, Bool.and_comm]
  · simp [h]

/-! Corrections, one after the other. -/
theorem last_perm {A B : List Rep} (h : A.Perm B) (hn : (A.map Rep.id).Nodup) : A.foldl corStep none = B.foldl corStep none := by
  rcases last_spec A with ⟨h1, rfl⟩ | ⟨m, hm, h1, h2⟩
  · obtain rfl := List.Perm.nil_eq h
    rfl
  · rcases last_spec B with ⟨_, rfl⟩ | ⟨m', hm', h3, h4⟩
    · exact absurd (h.mem_iff.1 hm) (by simp)
    · rw [h1, h3, last_unique hn hm (h.mem_iff.2 hm') h2 (fun c hc => h4 c (h.mem_iff.1 hc))]
def corP (K cs : List Rep) (id : Int) : Option Rep := (cs.filter (corB K id)).getLast?
theorem corP_nil (K : List Rep) (id : Int) : corP K [] id = none := rfl
theorem corP_step (K cs : List Rep) (c : Rep) (id : Int) : corP K (cs ++ [c]) id = if corB K id c = true then some c else corP K cs id := by
  unfold corP
  rw [List.filter_append]
  by_cases h : corB K id c = true
  · rw [if_pos h]; simp [h]
  · rw [if_neg h]; simp [h]
/-- Those that are left, and are of one kind. -/
def leftK (K : List Rep) (kind : Int) : List Rep := K.filter fun r => decide (r.kind = kind) && decide (wdV K r.id < 0)
theorem corP_end {K cs : List Rep} (hn : (K.map Rep.id).Nodup) (hp : cs.Perm (leftK K 8)) (hs : cs.Pairwise fun a b => laterB b a = true) (id : Int) : corP K cs id = corV K id := by
  unfold corP corV
  have e : K.filter (corB K id) = (leftK K 8).filter (corB K id) := by
    unfold leftK
    rw [List.filter_filter]
    refine List.filter_congr fun r _ => ?_
    cases h : corB K id r with
    | false => simp
    | true =>
      unfold corB at h
      simp only [Bool.and_eq_true, decide_eq_true_eq] at h
      simp [h.1.1.1.1, h.1.2]
  have hp2 : (cs.filter (corB K id)).Perm (K.filter (corB K id)) := by rw [e]; exact hp.filter _
  have hn2 : ((K.filter (corB K id)).map Rep.id).Nodup := hn.sublist (List.filter_sublist.map Rep.id)
  rw [← last_sorted (hs.filter _), last_perm hp2 ((hp2.map Rep.id).nodup_iff.2 hn2)]

/-! What became of a report. -/
/-- As the document has it: what became of it, and by which other one; none: it is not known. -/
def fateV (K : List Rep) (id : Int) : Option (Int × Int) := match atR K id with
  | none => none
  | some r =>
    if r.kind = 9 then some (if worksW K r = true then 4 else 3, -1)
    else if 0 ≤ wdV K id then some (2, wdV K id)
    else if r.kind = 8 then
      some (match atR K r.of_ with
        | none => 3
        | some s => if s.kind ≤ 7 ∧ wdV K r.of_ < 0 ∧ (corV K r.of_).map Rep.id = some id then 4 else 3, -1)
    else match corV K id with
      | some c => some (1, c.id)
      | none => some (0, -1)
/-- The correction that the program keeps of a number: of a fact that is left. -/
def corK (K : List Rep) (id : Int) : Option Rep := match atR K id with
  | none => none
  | some r => if factB K r = true then corV K id else none
/-- Whether the program notes that a report works. -/
def worksB (K : List Rep) (id : Int) : Bool := K.any fun r => decide (r.id = id) && ((decide (r.kind = 9) && worksW K r) || (K.any fun s => decide ((corK K s.id).map Rep.id = some id)))
/-- As the program has it. -/
def fateP (K : List Rep) (id : Int) : Option (Int × Int) :=
  if 0 ≤ wdV K id then some (2, wdV K id)
  else match atR K id with
    | none => none
    | some r => match corK K id with
      | some c => some (1, c.id)
      | none => if r.kind ≤ 7 then some (0, -1) else if worksB K id = true then some (4, -1) else some (3, -1)
theorem corV_some {K : List Rep} {id : Int} {c : Rep} (h : corV K id = some c) : c ∈ K ∧ corB K id c = true := by
  unfold corV at h
  rcases last_spec (K.filter (corB K id)) with ⟨h1, _⟩ | ⟨m, hm, h1, _⟩
  · rw [h1] at h; cases h
  · rw [h1] at h
    obtain rfl := Option.some.inj h
    exact List.mem_filter.1 hm
theorem wd_known {K : List Rep} (h0 : ∀ r ∈ K, 0 ≤ r.id) {id : Int} (h : 0 ≤ wdV K id) : ∃ r, atR K id = some r ∧ r.kind ≠ 9 := by
  obtain ⟨w, _, hb⟩ := (wdV_iff h0 id).1 h
  unfold wdB at hb
  simp only [Bool.and_eq_true, decide_eq_true_eq, Bool.not_eq_true', decide_eq_false_iff_not] at hb
  obtain ⟨⟨⟨_, h2⟩, h3⟩, h4⟩ := hb
  unfold aimsB at h4
  rw [h2] at h4
  cases he : atR K id with
  | none => rw [he] at h4; cases h4
  | some r =>
    refine ⟨r, rfl, fun e => h3 ?_⟩
    unfold kindAt
    rw [he]
    exact e
theorem id_eq {K : List Rep} (hn : (K.map Rep.id).Nodup) {r s : Rep} (hr : r ∈ K) (hs : s ∈ K) (e : r.id = s.id) : r = s := by
  have a1 := atR_mem hn hr
  have a2 := atR_mem hn hs
  rw [e, a2] at a1
  exact (Option.some.inj a1).symm
theorem corK_some {K : List Rep} {id : Int} {c : Rep} (h : corK K id = some c) : ∃ r, atR K id = some r ∧ factB K r = true ∧ corV K id = some c := by
  unfold corK at h
  cases he : atR K id with
  | none => rw [he] at h; cases h
  | some r =>
    rw [he] at h
    dsimp only at h
    by_cases hf : factB K r = true
    · rw [if_pos hf] at h; exact ⟨r, rfl, hf, h⟩
    · rw [if_neg hf] at h; cases h
theorem worksB_w {K : List Rep} (hn : (K.map Rep.id).Nodup) {r : Rep} (hr : r ∈ K) (hk : r.kind = 9) : worksB K r.id = worksW K r := by
  rw [Bool.eq_iff_iff]
  unfold worksB
  rw [List.any_eq_true]
  constructor
  · rintro ⟨q, hq, h⟩
    simp only [Bool.and_eq_true, Bool.or_eq_true, decide_eq_true_eq, List.any_eq_true] at h
    obtain rfl := id_eq hn hq hr h.1
    rcases h.2 with h2 | ⟨s, _, h2⟩
    · exact h2.2
    · cases hc : corK K s.id with
      | none => rw [hc] at h2; cases h2
      | some c =>
        rw [hc] at h2
        obtain ⟨_, _, _, hv⟩ := corK_some hc
        obtain ⟨hcK, hb⟩ := corV_some hv
        have e : c.id = q.id := by simpa using h2
        obtain rfl := id_eq hn hcK hq e
        unfold corB at hb
        simp only [Bool.and_eq_true, decide_eq_true_eq] at hb
        have := hb.1.1.1.1
        omega
  · intro h
    exact ⟨r, hr, by simp [hk, h]⟩
theorem worksB_c {K : List Rep} (hn : (K.map Rep.id).Nodup) {r : Rep} (hr : r ∈ K) (hk : r.kind = 8) : worksB K r.id = true ↔ ∃ s, atR K r.of_ = some s ∧ s.kind ≤ 7 ∧ wdV K r.of_ < 0 ∧ (corV K r.of_).map Rep.id = some r.id := by
  unfold worksB
  rw [List.any_eq_true]
  constructor
  · rintro ⟨q, hq, h⟩
    simp only [Bool.and_eq_true, Bool.or_eq_true, decide_eq_true_eq, List.any_eq_true] at h
    obtain rfl := id_eq hn hq hr h.1
    rcases h.2 with h2 | ⟨s, hs, h2⟩
    · omega
    · cases hc : corK K s.id with
      | none => rw [hc] at h2; cases h2
      | some c =>
        rw [hc] at h2
        obtain ⟨s', h3, hf, hv⟩ := corK_some hc
        obtain ⟨hcK, hb⟩ := corV_some hv
        have e : c.id = q.id := by simpa using h2
        obtain rfl := id_eq hn hcK hq e
        unfold corB at hb
        simp only [Bool.and_eq_true, decide_eq_true_eq] at hb
        have ho := hb.1.1.1.2
        rw [atR_mem hn hs] at h3
        obtain rfl := Option.some.inj h3
        unfold factB at hf
        simp only [Bool.and_eq_true, decide_eq_true_eq] at hf
        rw [ho]
        exact ⟨s, atR_mem hn hs, hf.1, hf.2, by rw [hv]; rfl⟩
  · rintro ⟨s, h1, h2, h3, h4⟩
    obtain ⟨hs, e⟩ := atR_some h1
    refine ⟨r, hr, ?_⟩
    simp only [Bool.and_eq_true, Bool.or_eq_true, decide_eq_true_eq, List.any_eq_true, true_and]
    refine .inr ⟨s, hs, ?_⟩
    have hf : factB K s = true := by
      unfold factB
      simp only [Bool.and_eq_true, decide_eq_true_eq]
      exact ⟨h2, by rw [e]; exact h3⟩
    unfold corK
    rw [atR_mem hn hs]
    dsimp only
    rw [if_pos hf, e]
    exact h4
theorem fate_eq {K : List Rep} (hn : (K.map Rep.id).Nodup) (h0 : ∀ r ∈ K, 0 ≤ r.id) (hk : ∀ r ∈ K, r.kind ≤ 9) (id : Int) : fateP K id = fateV K id := by
  unfold fateP fateV
  by_cases hw : 0 ≤ wdV K id
  · obtain ⟨r, hr, h9⟩ := wd_known h0 hw
    rw [if_pos hw, hr]
    dsimp only
    rw [if_neg h9, if_pos hw]
  · rw [if_neg hw]
    cases hr : atR K id with
    | none => rfl
    | some r =>
      obtain ⟨hrK, rfl⟩ := atR_some hr
      dsimp only
      have hk9 := hk r hrK
      by_cases hf : r.kind ≤ 7
      · have hfb : factB K r = true := by
          unfold factB
          simp only [Bool.and_eq_true, decide_eq_true_eq]
          exact ⟨hf, by omega⟩
        have hc : corK K r.id = corV K r.id := by
          unfold corK
          rw [hr]
          dsimp only
          rw [if_pos hfb]
        rw [hc, if_neg (show ¬ r.kind = 9 by omega), if_neg hw, if_neg (show ¬ r.kind = 8 by omega)]
        cases corV K r.id with
        | none => dsimp only; rw [if_pos hf]
        | some c => rfl
      · have hfb : ¬ factB K r = true := by
          unfold factB
          simp only [Bool.and_eq_true, decide_eq_true_eq]
          omega
        have hc : corK K r.id = none := by
          unfold corK
          rw [hr]
          dsimp only
          rw [if_neg hfb]
        rw [hc]
        dsimp only
        rw [if_neg hf]
        by_cases h9 : r.kind = 9
        · rw [if_pos h9, worksB_w hn hrK h9]
          by_cases hww : worksW K r = true
          · rw [if_pos hww, if_pos hww]
          · rw [if_neg hww, if_neg hww]
        · have h8 : r.kind = 8 := by omega
          rw [if_neg h9, if_neg hw, if_pos h8]
          have hb := worksB_c hn hrK h8
          by_cases hww : worksB K r.id = true
          · rw [if_pos hww]
            obtain ⟨s, h1, h2, h3, h4⟩ := hb.1 hww
            rw [h1]
            dsimp only
            rw [if_pos ⟨h2, h3, h4⟩]
          · rw [if_neg hww]
            cases h1 : atR K r.of_ with
            | none => rfl
            | some s =>
              dsimp only
              rw [if_neg fun h => hww (hb.2 ⟨s, h1, h.1, h.2.1, h.2.2⟩)]

end Go.Proofs.YtkpaikampmeooaaGreatDoor

namespace Go.Proofs.YtkpaikampmeooaaGreatDoor
open Go.RowKit Go.Maps

/-- The slice of reports at A holds l, below block B. -/
def Reps (w : World) (B : Nat) (A : Option Addr) (l : List Rep) : Prop :=
  ∀ k, (h : k < l.length) → ∃ b off, A = some ⟨b, off, none⟩ ∧ b < B ∧ ∀ i, i < 8 → w.cell? ⟨b, off + k * 8 + i, none⟩ = (#[.int .i64 l[k].id, .int .i64 l[k].src, .int .i64 l[k].acc, .int .i64 l[k].made, .int .i64 l[k].about, .int .u8 l[k].kind, .int .i64 l[k].cents, .int .i64 l[k].of_] : Array Value)[i]?
theorem Reps.below {w w' : World} {B : Nat} {A : Option Addr} {l : List Rep} (h : Reps w B A l) (hb : Below B w w') : Reps w' B A l := fun k hk => by
  obtain ⟨b, off, e, h1, h2⟩ := h k hk
  exact ⟨b, off, e, h1, fun i hi => (hb.cell (p := ⟨b, off + k * 8 + i, none⟩) h1).trans (h2 i hi)⟩
theorem Reps.more {w : World} {B B' : Nat} {A : Option Addr} {l : List Rep} (h : Reps w B A l) (hB : B ≤ B') : Reps w B' A l := fun k hk => by
  obtain ⟨b, off, e, h1, h2⟩ := h k hk
  exact ⟨b, off, e, by omega, h2⟩
theorem Reps.later {w0 W : World} {A : Option Addr} {l : List Rep} (h : Reps w0 w0.heap.size A l) (hb : Below w0.heap.size w0 W) : Reps W W.heap.size A l := (h.below hb).more hb.size
theorem Reps.after {w0 : World} {B : Nat} {A : Option Addr} {l : List Rep} (h : Reps w0 w0.heap.size A l) (hB : w0.heap.size ≤ B) (x : After B w0) : Reps x.val x.val.heap.size A l := h.later (x.property.mono hB)
/-- Eight cells of a report, one after the other. -/
structure Rep8 (w : World) (b o : Nat) (x : Rep) : Prop where
  c0 : w.cell? ⟨b, o, none⟩ = some (.int .i64 x.id)
  c1 : w.cell? ⟨b, o + 1, none⟩ = some (.int .i64 x.src)
  c2 : w.cell? ⟨b, o + 2, none⟩ = some (.int .i64 x.acc)
  c3 : w.cell? ⟨b, o + 3, none⟩ = some (.int .i64 x.made)
  c4 : w.cell? ⟨b, o + 4, none⟩ = some (.int .i64 x.about)
  c5 : w.cell? ⟨b, o + 5, none⟩ = some (.int .u8 x.kind)
  c6 : w.cell? ⟨b, o + 6, none⟩ = some (.int .i64 x.cents)
  c7 : w.cell? ⟨b, o + 7, none⟩ = some (.int .i64 x.of_)
theorem Reps.eight {w : World} {B : Nat} {A : Option Addr} {l : List Rep} (h : Reps w B A l) {k : Nat} (hk : k < l.length) : ∃ b off, A = some ⟨b, off, none⟩ ∧ b < B ∧ Rep8 w b (off + k * 8) l[k] := by
  obtain ⟨b, off, e, h1, h2⟩ := h k hk
  exact ⟨b, off, e, h1, ⟨h2 0 (by omega), h2 1 (by omega), h2 2 (by omega), h2 3 (by omega), h2 4 (by omega), h2 5 (by omega), h2 6 (by omega), h2 7 (by omega)⟩⟩

/-! At which place one has a number. -/
def ixR (l : List Rep) (id : Int) : Int := match l.findIdx? fun r => decide (r.id = id) with
  | some k => (k : Int)
  | none => -1
theorem ixR_none {l : List Rep} {id : Int} (h : ∀ r ∈ l, r.id ≠ id) : ixR l id = -1 := by
  have e : (l.findIdx? fun r => decide (r.id = id)) = none := by
    rw [List.findIdx?_eq_none_iff]
    intro r hr
    simpa using h r hr
  unfold ixR
  rw [e]
theorem ixR_found {l : List Rep} {id : Int} {k : Nat} (hk : k < l.length) (h : l[k].id = id) (hn : ∀ j, (hj : j < k) → (l[j]'(by omega)).id ≠ id) : ixR l id = k := by
  have e : (l.findIdx? fun r => decide (r.id = id)) = some k := by
    rw [List.findIdx?_eq_some_iff_getElem]
    refine ⟨hk, by simpa using h, fun j hj => by simpa using hn j hj⟩
  unfold ixR
  rw [e]
theorem ixR_cases (l : List Rep) (id : Int) : (ixR l id = -1 ∧ atR l id = none) ∨ ∃ k, ∃ h : k < l.length, ixR l id = k ∧ atR l id = some l[k] := by
  cases hf : l.findIdx? fun r => decide (r.id = id) with
  | none =>
    rw [List.findIdx?_eq_none_iff] at hf
    have h1 : ∀ r ∈ l, r.id ≠ id := fun r hr => by simpa using hf r hr
    exact .inl ⟨ixR_none h1, atR_none.2 h1⟩
  | some k =>
    rw [List.findIdx?_eq_some_iff_getElem] at hf
    obtain ⟨hk, h1, h2⟩ := hf
    have h1' : l[k].id = id := by simpa using h1
    have h2' : ∀ j, (hj : j < k) → (l[j]'(by omega)).id ≠ id := fun j hj => by simpa using h2 j hj
    refine .inr ⟨k, hk, ixR_found hk h1' h2', ?_⟩
    unfold atR
    rw [List.find?_eq_some_iff_getElem]
    exact ⟨by simpa using h1', k, hk, rfl, fun j hj => by simpa using h2 j hj⟩

set_option maxRecDepth 100000 in
set_option maxHeartbeats 1000000 in
theorem at3_any (l : List Rep) (A : Option Addr) (c : Nat) (id : Int) (w : World) (h : Reps w w.heap.size A l) (hl : l.length ≤ maxLen) :
    Calls Tryz.prog 22 #[.slice A l.length c, .int .i64 id] w fun e w' => e = .returned (.int .i64 (ixR l id)) ∧ w = w' := by
  unfold maxLen at hl
  go_enter Tryz.func22, Tryz.ntmps22
  go_wp2_with fail
  go_loopw [5] (fun ii wr => ∃ i : Nat, i ≤ l.length ∧ ii = .int .i64 i ∧ Hid (∀ j, (hj : j < i) → (hl : j < l.length) → l[j].id ≠ id) ∧ w = wr) (fun ii _ => l.length - (vInt ii).toNat)
  case atStart => exact ⟨0, Nat.zero_le _, rfl, Lib.hid fun j hj => by omega, rfl⟩
  case round =>
    obtain ⟨i, hi, rfl, hR, rfl⟩ := hrel
    by_cases hlt : i < l.length
    · have hil : (i : Int) < (l.length : Int) := by omega
      obtain ⟨b, off, rfl, hb, C⟩ := h.eight hlt
      have c0 := C.c0
      by_cases he : l[i].id = id
      · have e1 : (l[i].id == id) = true := by simp [he]
        have hv : Hid (ixR l id = (i : Int)) := Lib.hid (ixR_found hlt he (fun j hj => hR.out j hj (by omega)))
        clear he C
        go_wp2_with fail
        go_ret
        exact ⟨by rw [hv.out]; rfl, rfl⟩
      · have e1 : (l[i].id == id) = false := by simpa using he
        have HR : Hid (∀ j, (hj : j < i + 1) → (hl : j < l.length) → l[j].id ≠ id) := Lib.hid (fun j hj hl => by
          by_cases hji : j = i
          · subst hji; exact he
          · exact hR.out j (by omega) hl)
        clear he C
        go_wp2_with fail
        go_roundw
        case rel => exact ⟨i + 1, by omega, by go_num, HR, by first | rfl | trivial⟩
        case measure => simp [vInt]; omega
    · have hil : ¬ (i : Int) < (l.length : Int) := by omega
      have hv : Hid (ixR l id = -1) := Lib.hid (ixR_none (fun r hr => by
        obtain ⟨j, hj, rfl⟩ := List.getElem_of_mem hr
        exact hR.out j (by omega) hj))
      go_wp2_with fail
      go_ret
      exact ⟨by rw [hv.out]; rfl, rfl⟩

end Go.Proofs.YtkpaikampmeooaaGreatDoor

namespace Go.Proofs.YtkpaikampmeooaaGreatDoor
open Go.RowKit Go.Maps

def repCells (x : Rep) : List Value := [.int .i64 x.id, .int .i64 x.src, .int .i64 x.acc, .int .i64 x.made, .int .i64 x.about, .int .u8 x.kind, .int .i64 x.cents, .int .i64 x.of_]
theorem repCells_get : ∀ (l : List Rep) (k : Nat) (h : k < l.length) (i : Nat), i < 8 → (l.flatMap repCells)[k * 8 + i]? = (repCells l[k])[i]?
  | x :: l, 0, _, i, hi => by
    rw [show (x :: l).flatMap repCells = repCells x ++ l.flatMap repCells from rfl, Nat.zero_mul, Nat.zero_add, List.getElem?_append_left (by simpa [repCells] using hi)]
    rfl
  | x :: l, k + 1, h, i, hi => by
    rw [show (x :: l).flatMap repCells = repCells x ++ l.flatMap repCells from rfl, List.getElem?_append_right (by simp [repCells]; omega), show (k + 1) * 8 + i - (repCells x).length = k * 8 + i by simp [repCells]; omega]
    exact repCells_get l k (by simpa using h) i hi
theorem repCells_len : ∀ l : List Rep, (l.flatMap repCells).length = l.length * 8
  | [] => rfl
  | x :: l => by
    rw [show (x :: l).flatMap repCells = repCells x ++ l.flatMap repCells from rfl, List.length_append, repCells_len l, List.length_cons]
    simp [repCells]; omega
theorem repCells_one (x : Rep) : ∀ u ∈ repCells x, u.oneCell' = true := fun u hu => by
  simp only [repCells, List.mem_cons, List.not_mem_nil, or_false] at hu
  rcases hu with rfl | rfl | rfl | rfl | rfl | rfl | rfl | rfl <;> rfl
theorem repCells_snoc (l : List Rep) (x : Rep) : (l ++ [x]).flatMap repCells = l.flatMap repCells ++ repCells x := by simp
theorem reps_own {W : World} {base : Nat} {A : Option Addr} {c : Nat} {l : List Rep} (h : W.ownsRow base 56 8 (.slice A l.length c) l.length (l.flatMap repCells)) : Reps W W.heap.size A l := fun k hk => by
  obtain ⟨g, cap, hv, hb, hlt⟩ := h.form (by omega)
  simp only [Value.slice.injEq, true_and] at hv
  obtain ⟨rfl, rfl⟩ := hv
  refine ⟨g, 0, rfl, hlt, fun i hi => ?_⟩
  rw [Nat.zero_add, h.cellAt (k * 8 + i) (by omega), repCells_get l k hk i hi]; simp [repCells]
theorem cells_new8 (W : World) (x : Rep) : ∀ j u, (repCells x)[j]? = some u → (W.alloc (.cells #[.int .i64 x.id, .int .i64 x.src, .int .i64 x.acc, .int .i64 x.made, .int .i64 x.about, .int .u8 x.kind, .int .i64 x.cents, .int .i64 x.of_] 56)).cell? ((⟨W.heap.size, 0, none⟩ : Addr).add j) = some u := fun j u hj => by
  have := (Blk.new W #[.int .i64 x.id, .int .i64 x.src, .int .i64 x.acc, .int .i64 x.made, .int .i64 x.about, .int .u8 x.kind, .int .i64 x.cents, .int .i64 x.of_] 56).cell j
  rw [show ((⟨W.heap.size, 0, none⟩ : Addr).add j) = ⟨W.heap.size, j, none⟩ by rw [Addr.add]; simp; exact fun h => h.symm]
  refine this.trans ?_
  rw [← hj]; simp [repCells]
theorem repInfo : (Tryz.prog.info? 56).map (fun i => (i.zero, i.size, i.bytes)) = some (some (.agg #[.int .i64 0, .int .i64 0, .int .i64 0, .int .i64 0, .int .i64 0, .int .u8 0, .int .i64 0, .int .i64 0]), 8, 64) := by kernel_rfl
theorem knownL_le (l : List Rep) (d : Int) : (knownL l d).length ≤ l.length := by
  have h : ∀ n, ∀ l : List Rep, l.length = n → (knownL l d).length ≤ n := by
    intro n
    induction n with
    | zero =>
      intro l hl
      obtain rfl := List.eq_nil_of_length_eq_zero hl
      exact Nat.le_refl _
    | succ n ih =>
      intro l hl
      obtain ⟨l', x, rfl⟩ : ∃ l' x, l = l' ++ [x] := ⟨l.dropLast, l.getLast (by intro e; rw [e] at hl; simp at hl), (List.dropLast_concat_getLast _).symm⟩
      rw [knownL_snoc]
      have h1 := ih l' (by simpa using hl)
      unfold knowStep
      split
      · rw [List.length_append]; simp; omega
      · omega
  exact h l.length l rfl

end Go.Proofs.YtkpaikampmeooaaGreatDoor

namespace Go.Proofs.YtkpaikampmeooaaGreatDoor
open Go.RowKit Go.Maps

set_option maxRecDepth 100000 in
set_option maxHeartbeats 4000000 in
theorem known3_any (l : List Rep) (A : Option Addr) (c : Nat) (d : Int) (w : World) (h : Reps w w.heap.size A l) (hl : l.length ≤ 1000) :
    Calls Tryz.prog 41 #[.slice A l.length c, .int .i64 d] w fun e w' => ∃ v, e = .returned v ∧ w'.ownsRow w.heap.size 56 8 v (knownL l d).length ((knownL l d).flatMap repCells) ∧ Below w.heap.size w w' := by
  obtain ⟨i0, hi0, hz0, hz1, hz2⟩ := info_parts repInfo
  have HA := Lib.hid (fun (K : List Rep) A2 c2 id W hK hh => at3_any K A2 c2 id W hh hK)
  go_enter Tryz.func41, Tryz.ntmps41
  go_wp2_with fail
  go_loopw [5, 6] (fun vv ii wr => ∃ (i : Nat) (A2 : Option Addr) (c2 : Nat), i ≤ l.length ∧ vv = .slice A2 (knownL (l.take i) d).length c2 ∧ ii = .int .i64 i ∧ Hid (wr.ownsRow w.heap.size 56 8 (.slice A2 (knownL (l.take i) d).length c2) (knownL (l.take i) d).length ((knownL (l.take i) d).flatMap repCells) ∧ Below w.heap.size w wr)) (fun _ ii _ => l.length - (vInt ii).toNat)
  case atStart => exact ⟨0, none, 0, Nat.zero_le _, rfl, rfl, Lib.hid ⟨World.ownsRow_nil _ _ _ _, Below.refl _ _⟩⟩
  case round =>
    obtain ⟨i, A2, c2, hi, rfl, rfl, hR⟩ := hrel
    by_cases hlt : i < l.length
    · have hil : (i : Int) < (l.length : Int) := by omega
      obtain ⟨hO, hB⟩ := hR.out
      obtain ⟨b, off, rfl, hb, C⟩ := (h.later hB).eight hlt
      have HT : Hid (knownL (l.take (i + 1)) d = knowStep d (knownL (l.take i) d) l[i]) := Lib.hid (by rw [← knownL_snoc, List.take_succ_eq_append_getElem hlt])
      have hKl : (knownL (l.take i) d).length ≤ 1000 := Nat.le_trans (knownL_le _ _) (by rw [List.length_take]; omega)
      generalize l[i] = r at *
      generalize knownL (l.take i) d = K at *
      obtain ⟨c0, c1, c2', c3, c4, c5, c6, c7⟩ := C
      by_cases hm : r.made ≤ d
      · have em : decide (r.made ≤ d) = true := decide_eq_true hm
        have HC := Lib.hid (HA.out K A2 c2 r.id wr (by unfold maxLen; omega) (reps_own hO))
        rcases ixR_cases K r.id with ⟨hx, ha⟩ | ⟨k, hk, hx, ha⟩
        · rw [hx] at HC
          have hstep : knownL (l.take (i + 1)) d = K ++ [r] := by rw [HT.out]; unfold knowStep; rw [if_pos ⟨hm, ha⟩]
          have HO := Lib.hid hO
          have hBz := hB.size
          clear hR hm hx ha hO HT
          go_wp2_with (first
            | (go_at_call 22; (with_reducible refine (HC.out).mono ?_); rintro e w2 ⟨rfl, rfl⟩)
            | (at_builtin; refine wpList_append_own_at _ rfl _ _ 27 rfl w.heap.size 56 i0 _ 8 64 Tryz.underlying27 hi0 hz0 hz1 hz2 rfl (by decide) _ _ _ rfl (HO.out.alloc _) ⟨wr.heap.size, 0, none⟩ 1 1 (repCells r) rfl rfl (cells_new8 _ _) (repCells_one _) (by unfold maxLen; omega) (by omega) (by simp; omega) ?_; intro v' w3 hown3 hg3 _ hat3; have hB3 := (hB.alloc hB.size (.cells #[.int .i64 r.id, .int .i64 r.src, .int .i64 r.acc, .int .i64 r.made, .int .i64 r.about, .int .u8 r.kind, .int .i64 r.cents, .int .i64 r.of_] 56)).grown hg3 (by simp; omega) (fun k e => (HO.out.lt k e).1); obtain ⟨A3, c3, rfl⟩ := own_slice hown3))
          go_roundw
          case rel => exact ⟨i + 1, A3, c3, by omega, by rw [hstep, List.length_append]; rfl, by go_num, Lib.hid ⟨by rw [hstep, List.length_append, repCells_snoc]; exact hown3, hB3⟩⟩
          case measure => simp [vInt]; omega
        · rw [hx] at HC
          have hk0 : ¬ (k : Int) < 0 := by omega
          have hstep : knownL (l.take (i + 1)) d = K := by rw [HT.out]; unfold knowStep; rw [if_neg (by rw [ha]; simp)]
          have HO := Lib.hid hO
          clear hR hm hx ha hO HT hk
          go_wp2_with (go_at_call 22; (with_reducible refine (HC.out).mono ?_); rintro e w2 ⟨rfl, rfl⟩)
          go_roundw
          case rel => exact ⟨i + 1, A2, c2, by omega, by rw [hstep], by go_num, Lib.hid ⟨by rw [hstep]; exact HO.out, hB⟩⟩
          case measure => simp [vInt]; omega
      · have em : decide (r.made ≤ d) = false := decide_eq_false hm
        have hstep : knownL (l.take (i + 1)) d = K := by rw [HT.out]; unfold knowStep; rw [if_neg (fun e => hm e.1)]
        have HO := Lib.hid hO
        clear hR hO HT
        go_wp2_with fail
        go_roundw
        case rel => exact ⟨i + 1, A2, c2, by omega, by rw [hstep], by go_num, Lib.hid ⟨by rw [hstep]; exact HO.out, hB⟩⟩
        case measure => simp [vInt]; omega
    · have hil : ¬ (i : Int) < (l.length : Int) := by omega
      have hO := hR.out.1
      have hfin := hR.out.2
      rw [List.take_of_length_le (by omega)] at hO ⊢
      have HO := Lib.hid hO
      clear hR hO
      go_wp2_with fail
      go_ret
      exact ⟨_, rfl, HO.out, hfin⟩

end Go.Proofs.YtkpaikampmeooaaGreatDoor

namespace Go.Proofs.YtkpaikampmeooaaGreatDoor
open Go.RowKit Go.Maps

theorem repZero (w : World) : (zeroValue 56).run Tryz.prog w = .ok (.agg #[.int .i64 0, .int .i64 0, .int .i64 0, .int .i64 0, .int .i64 0, .int .u8 0, .int .i64 0, .int .i64 0]) w := by kernel_rfl
open Classical in
/-- Which report has a number. -/
noncomputable def repG (l : List Rep) : Lit → Option Value := fun k => (l.find? fun r => decide (k = .int .i64 r.id)).map fun r => .agg #[.int .i64 r.id, .int .i64 r.src, .int .i64 r.acc, .int .i64 r.made, .int .i64 r.about, .int .u8 r.kind, .int .i64 r.cents, .int .i64 r.of_]
theorem repG_nil : repG [] = fun _ => none := rfl
open Classical in
theorem repG_at (l : List Rep) (id : Int) : repG l (.int .i64 id) = (atR l id).map fun r => .agg #[.int .i64 r.id, .int .i64 r.src, .int .i64 r.acc, .int .i64 r.made, .int .i64 r.about, .int .u8 r.kind, .int .i64 r.cents, .int .i64 r.of_] := by
  unfold repG atR
  congr 2
  funext r
  rw [decide_eq_decide]
  constructor
  · intro e; injection e with _ e; exact e.symm
  · intro e; rw [e]
open Classical in
theorem repG_snoc (l : List Rep) (r : Rep) : repG (l ++ [r]) = if atR l r.id = none then putFn (repG l) (.int .i64 r.id) (.agg #[.int .i64 r.id, .int .i64 r.src, .int .i64 r.acc, .int .i64 r.made, .int .i64 r.about, .int .u8 r.kind, .int .i64 r.cents, .int .i64 r.of_]) else repG l := by
  funext k
  by_cases hn : atR l r.id = none
  · rw [if_pos hn]
    unfold putFn
    by_cases hk : k = .int .i64 r.id
    · rw [if_pos hk, hk, repG_at]
      unfold atR at hn ⊢
      rw [List.find?_append, hn]
      simp
    · rw [if_neg hk]
      unfold repG
      rw [List.find?_append]
      have : ([r].find? fun y => decide (k = .int .i64 y.id)) = none := by simp [hk]
      rw [this, Option.or_none]
  · rw [if_neg hn]
    unfold repG
    rw [List.find?_append]
    by_cases hk : k = .int .i64 r.id
    · have : (l.find? fun y => decide (k = .int .i64 y.id)) ≠ none := by
        intro e
        apply hn
        have h2 := repG_at l r.id
        unfold repG at h2
        rw [← hk, e] at h2
        cases h3 : atR l r.id with
        | none => rfl
        | some s => rw [h3] at h2; cases h2
      cases h4 : l.find? fun y => decide (k = .int .i64 y.id) with
      | none => exact absurd h4 this
      | some s => rfl
    · have : ([r].find? fun y => decide (k = .int .i64 y.id)) = none := by simp [hk]
      rw [this, Option.or_none]
/-- A report that is there already, put in once more. -/
theorem repG_same (l : List Rep) (r : Rep) (h : atR l r.id = some r) : putFn (repG l) (.int .i64 r.id) (.agg #[.int .i64 r.id, .int .i64 r.src, .int .i64 r.acc, .int .i64 r.made, .int .i64 r.about, .int .u8 r.kind, .int .i64 r.cents, .int .i64 r.of_]) = repG l := by
  funext k
  unfold putFn
  by_cases hk : k = .int .i64 r.id
  · rw [if_pos hk, hk, repG_at, h]; rfl
  · rw [if_neg hk]

/-- No two that differ have the same number, in the first i. -/
def OneId (l : List Rep) : Prop := ∀ r ∈ l, ∀ s ∈ l, r.id = s.id → r = s
theorem oneId_snoc {l : List Rep} {r : Rep} (h : OneId l) (hr : ∀ s, atR l r.id = some s → s = r) : OneId (l ++ [r]) := by
  have hx : ∀ s ∈ l, s.id = r.id → s = r := fun s hs e => by
    cases h1 : atR l r.id with
    | none => exact absurd e (atR_none.1 h1 s hs)
    | some q =>
      obtain ⟨hq, eq⟩ := atR_some h1
      rw [h s hs q hq (e.trans eq.symm), hr q h1]
  intro a ha b hb e
  rcases List.mem_append.1 ha with ha1 | ha1 <;> rcases List.mem_append.1 hb with hb1 | hb1
  · exact h a ha1 b hb1 e
  · simp only [List.mem_cons, List.not_mem_nil, or_false] at hb1
    rw [hb1] at e ⊢
    exact hx a ha1 e
  · simp only [List.mem_cons, List.not_mem_nil, or_false] at ha1
    rw [ha1] at e ⊢
    exact (hx b hb1 e.symm).symm
  · simp only [List.mem_cons, List.not_mem_nil, or_false] at ha1 hb1
    rw [ha1, hb1]
theorem put_snoc {l : List Rep} {r : Rep} (hr : ∀ s, atR l r.id = some s → s = r) : putFn (repG l) (.int .i64 r.id) (.agg #[.int .i64 r.id, .int .i64 r.src, .int .i64 r.acc, .int .i64 r.made, .int .i64 r.about, .int .u8 r.kind, .int .i64 r.cents, .int .i64 r.of_]) = repG (l ++ [r]) := by
  rw [repG_snoc]
  cases h : atR l r.id with
  | none => rw [if_pos rfl]
  | some s =>
    rw [if_neg (by simp)]
    obtain rfl := hr s h
    exact repG_same l s h

set_option maxRecDepth 100000 in
set_option maxHeartbeats 4000000 in
theorem oneOfEachId_any (l : List Rep) (A : Option Addr) (c : Nat) (w : World) (h : Reps w w.heap.size A l) (hl : l.length ≤ 1000) (hid : ∀ r ∈ l, (Lit.int .i64 r.id).wf = true) :
    Calls Tryz.prog 99 #[.slice A l.length c] w fun e w' => e = .returned (.bool (!clashB l)) ∧ Below w.heap.size w w' := by
  have hmm := @run_makeMap Tryz.prog
  have hM0 : MapFn (w.alloc (.map #[] 0)) Tryz.prog 3 w.heap.size 0 (repG (l.take 0)) := MapFn.made w Tryz.prog 3
  have HI0 : Hid (MapFn (w.alloc (.map #[] 0)) Tryz.prog 3 w.heap.size 0 (repG (l.take 0)) ∧ OneId (l.take 0) ∧ Below w.heap.size w (w.alloc (.map #[] 0))) := Lib.hid ⟨hM0, fun r hr => by simp at hr, (Below.refl _ _).alloc (Nat.le_refl _) _⟩
  clear hM0
  have Hid' := Lib.hid hid
  clear hid
  go_enter Tryz.func99, Tryz.ntmps99
  go_wp2_with fail
  go_loopw [11] (fun ii wr => ∃ i : Nat, i ≤ l.length ∧ ii = .int .i64 i ∧ Hid (MapFn wr Tryz.prog 3 w.heap.size i (repG (l.take i)) ∧ OneId (l.take i) ∧ Below w.heap.size w wr)) (fun ii _ => l.length - (vInt ii).toNat)
  case atStart => exact ⟨0, Nat.zero_le _, rfl, HI0⟩
  case round =>
    obtain ⟨i, hi, rfl, hR⟩ := hrel
    clear HI0
    by_cases hlt : i < l.length
    · as_aux_lemma =>
      have hil : (i : Int) < (l.length : Int) := by omega
      obtain ⟨hM, hO, hB⟩ := hR.out
      obtain ⟨b, off, rfl, hb, C⟩ := (h.later hB).eight hlt
      have hwf := Hid'.out _ (List.getElem_mem hlt)
      have HT : Hid (l.take i ++ [l[i]] = l.take (i + 1)) := Lib.hid (List.take_succ_eq_append_getElem hlt).symm
      have hmem : ∀ s, s ∈ l.take i → s ∈ l := fun s hs => List.mem_of_mem_take hs
      have hri : l[i] ∈ l := List.getElem_mem hlt
      generalize l[i] = r at *
      obtain ⟨c0, c1, c2, c3, c4, c5, c6, c7⟩ := C
      have hM1 := hM.alloc (.cells #[.int .i64 r.id, .int .i64 r.src, .int .i64 r.acc, .int .i64 r.made, .int .i64 r.about, .int .u8 r.kind, .int .i64 r.cents, .int .i64 r.of_] 56)
      have look := hM1.lookOk (int_keyed Tryz.underlying3) Tryz.underlying104 (repZero _) (keyOf_int_mk Tryz.underlying3 hwf)
      rw [repG_at] at look
      have hzB := hB.size
      have hltB := hM.lt
      cases ha : atR (l.take i) r.id with
      | none =>
        rw [ha] at look
        simp only [Option.map_none, Option.getD_none, Option.isSome_none] at look
        obtain ⟨w3, hrun3, hput, hg3⟩ := (hM1.alloc (.cells #[.int .i64 0, .int .i64 0, .int .i64 0, .int .i64 0, .int .i64 0, .int .u8 0, .int .i64 0, .int .i64 0] 56)).put (int_keyed Tryz.underlying3) Tryz.underlying104 (by unfold maxLen; omega) (keyOf_int_mk Tryz.underlying3 hwf) (val := .agg #[.int .i64 r.id, .int .i64 r.src, .int .i64 r.acc, .int .i64 r.made, .int .i64 r.about, .int .u8 r.kind, .int .i64 r.cents, .int .i64 r.of_])
        have hnone : ∀ s, atR (l.take i) r.id = some s → s = r := fun s e => by rw [ha] at e; cases e
        rw [put_snoc hnone, HT.out] at hput
        have HJ : Hid (MapFn w3 Tryz.prog 3 w.heap.size (i + 1) (repG (l.take (i + 1))) ∧ OneId (l.take (i + 1)) ∧ Below w.heap.size w w3) := Lib.hid ⟨hput, HT.out ▸ oneId_snoc hO hnone, ((hB.alloc hzB _).alloc (by simp; omega) _).grown hg3 (by simp; omega) (fun k e => by have := Option.some.inj e; omega)⟩
        clear hput hM1 hM hO hR hnone ha
        go_wp2_with fail
        go_roundw
        case rel => exact ⟨i + 1, by omega, by go_num, HJ⟩
        case measure => simp [vInt]; omega
      | some s =>
        rw [ha] at look
        simp only [Option.map_some, Option.getD_some, Option.isSome_some] at look
        obtain ⟨hs, es⟩ := atR_some ha
        by_cases hsr : s = r
        · subst hsr
          obtain ⟨w3, hrun3, hput, hg3⟩ := (hM1.alloc (.cells #[.int .i64 s.id, .int .i64 s.src, .int .i64 s.acc, .int .i64 s.made, .int .i64 s.about, .int .u8 s.kind, .int .i64 s.cents, .int .i64 s.of_] 56)).put (int_keyed Tryz.underlying3) Tryz.underlying104 (by unfold maxLen; omega) (keyOf_int_mk Tryz.underlying3 hwf) (val := .agg #[.int .i64 s.id, .int .i64 s.src, .int .i64 s.acc, .int .i64 s.made, .int .i64 s.about, .int .u8 s.kind, .int .i64 s.cents, .int .i64 s.of_])
          have hnone : ∀ q, atR (l.take i) s.id = some q → q = s := fun q e => by rw [ha] at e; exact (Option.some.inj e).symm
          rw [put_snoc hnone, HT.out] at hput
          have HJ : Hid (MapFn w3 Tryz.prog 3 w.heap.size (i + 1) (repG (l.take (i + 1))) ∧ OneId (l.take (i + 1)) ∧ Below w.heap.size w w3) := Lib.hid ⟨hput, HT.out ▸ oneId_snoc hO hnone, ((hB.alloc hzB _).alloc (by simp; omega) _).grown hg3 (by simp; omega) (fun k e => by have := Option.some.inj e; omega)⟩
          clear hput hM1 hM hO hR hnone ha hs es
          go_wp2_with fail
          go_roundw
          case rel => exact ⟨i + 1, by omega, by go_num, HJ⟩
          case measure => simp [vInt]; omega
        · have hc : clashB l = true := by
            cases hcl : clashB l with
            | true => rfl
            | false => exact absurd (clashB_iff.1 hcl s (hmem s hs) r hri es) hsr
          have Hc := Lib.hid hc
          have Hne : Hid (¬ (s.id = r.id ∧ s.src = r.src ∧ s.acc = r.acc ∧ s.made = r.made ∧ s.about = r.about ∧ s.kind = r.kind ∧ s.cents = r.cents ∧ s.of_ = r.of_)) := Lib.hid (fun ⟨a1, a2, a3, a4, a5, a6, a7, a8⟩ => hsr (by cases s; cases r; simp_all))
          have hfin : ∀ o o', Below w.heap.size w ((wr.alloc o).alloc o') := fun o o' => (hB.alloc hzB o).alloc (by simp; omega) o'
          clear hM1 hM hO hR ha hs hsr hc hmem hri HT
          go_wp2_with fail
          all_goals first
            | (exfalso; apply Hne.out; refine ⟨?_, ?_, ?_, ?_, ?_, ?_, ?_, ?_⟩ <;> assumption)
            | (go_ret; exact ⟨by rw [Hc.out]; rfl, hfin _ _⟩)
    · have hil : ¬ (i : Int) < (l.length : Int) := by omega
      have hc : Hid (clashB l = false) := Lib.hid (clashB_iff.2 (by
        have q := hR.out.2.1
        rw [List.take_of_length_le (by omega)] at q
        exact q))
      have hfin := hR.out.2.2
      clear hR
      go_wp2_with fail
      go_ret
      exact ⟨by rw [hc.out]; rfl, hfin⟩

end Go.Proofs.YtkpaikampmeooaaGreatDoor

namespace Go.Proofs.YtkpaikampmeooaaGreatDoor
open Go.RowKit Go.Maps

abbrev aggR (r : Rep) : Value := .agg #[.int .i64 r.id, .int .i64 r.src, .int .i64 r.acc, .int .i64 r.made, .int .i64 r.about, .int .u8 r.kind, .int .i64 r.cents, .int .i64 r.of_]
theorem sameKey_int (p q : Int) : (Lit.int .i64 q).sameKey (.int .i64 p) = decide (q = p) := by
  by_cases h : q = p
  · subst h; rw [WideAt.sameKey_self (show WideAt.IsKeyLit (.int .i64 q) from trivial)]; simp
  · cases hk : (Lit.int .i64 q).sameKey (.int .i64 p) with
    | false => simp [h]
    | true => have := WideAt.sameKey_eq hk; injection this with _ e; exact absurd e h
/-- What is in a map by numbers. -/
def intG (f : Int → Option Value) : Lit → Option Value := fun k => match k with | .int .i64 x => f x | _ => none
theorem intG_at (f : Int → Option Value) (x : Int) : intG f (.int .i64 x) = f x := rfl
theorem intG_put (f : Int → Option Value) (x : Int) (v : Value) : putFn (intG f) (.int .i64 x) v = intG (fun y => if y = x then some v else f y) := by
  funext k
  unfold putFn
  by_cases h : k = .int .i64 x
  · subst h; rw [if_pos rfl, intG_at, if_pos rfl]
  · rw [if_neg h]
    unfold intG
    split
    · rename_i y
      by_cases e : y = x
      · subst e; exact absurd rfl h
      · show f y = if y = x then some v else f y
        rw [if_neg e]
    · rfl
theorem intG_nil : intG (fun _ => none) = fun _ => none := by
  funext k
  unfold intG
  split <;> rfl
theorem intG_congr {f g : Int → Option Value} (h : ∀ x, f x = g x) : intG f = intG g := by rw [funext h]
open Classical in
theorem repG_eq (K : List Rep) : repG K = intG fun id => (atR K id).map fun r => .agg #[.int .i64 r.id, .int .i64 r.src, .int .i64 r.acc, .int .i64 r.made, .int .i64 r.about, .int .u8 r.kind, .int .i64 r.cents, .int .i64 r.of_] := by
  funext k
  unfold intG
  split
  · exact repG_at K _
  · rename_i h
    unfold repG
    have : (K.find? fun r => decide (k = .int .i64 r.id)) = none := by
      rw [List.find?_eq_none]
      intro r _ e
      simp only [decide_eq_true_eq] at e
      exact h _ e
    rw [this]; rfl
theorem repG_mem {K : List Rep} {x : Int} {v : Value} (h : repG K (.int .i64 x) = some v) : ∃ r ∈ K, r.id = x ∧ v = aggR r := by
  rw [repG_at] at h
  cases hr : atR K x with
  | none => rw [hr] at h; cases h
  | some r =>
    rw [hr] at h
    obtain ⟨h1, h2⟩ := atR_some hr
    exact ⟨r, h1, h2, (Option.some.inj h).symm⟩
theorem sub_len : ∀ (a b : List Int), a.Nodup → (∀ x ∈ a, x ∈ b) → a.length ≤ b.length
  | [], b, _, _ => Nat.zero_le _
  | x :: a, b, hn, hs => by
    rw [List.nodup_cons] at hn
    have hx : x ∈ b := hs x (by simp)
    have h1 := sub_len a (b.erase x) hn.2 fun y hy => (List.mem_erase_of_ne (fun e => hn.1 (by rw [← e]; exact hy))).2 (hs y (by simp [hy]))
    rw [List.length_erase_of_mem hx] at h1
    have h2 : 0 < b.length := List.length_pos_of_mem hx
    simp only [List.length_cons]
    omega

/-- Some of the reports of a map have come. -/
structure CollR (K : List Rep) (left : Lit → Bool) (ps : List Rep) : Prop where
  nodup : (ps.map Rep.id).Nodup
  sub : ∀ r ∈ ps, r ∈ K
  gone : ∀ r ∈ ps, left (.int .i64 r.id) = false
  rest : ∀ r ∈ K, r ∈ ps ∨ left (.int .i64 r.id) = true
theorem CollR.start {K : List Rep} (hn : (K.map Rep.id).Nodup) {D : DataW Value} (hat : ∀ kl z, D.atKey kl z = gotAt (repG K kl) z) : CollR K (has D) [] :=
  ⟨List.nodup_nil, fun r hr => by simp at hr, fun r hr => by simp at hr, fun r hr => .inr (by rw [has_some hat, repG_at, atR_mem hn hr]; rfl)⟩
theorem CollR.step {K : List Rep} {left : Lit → Bool} {ps : List Rep} (h : CollR K left ps) {r : Rep} (hr : r ∈ K) (hl : left (.int .i64 r.id) = true) (hn : (K.map Rep.id).Nodup) : CollR K (fun z => left z && !z.sameKey (.int .i64 r.id)) (ps ++ [r]) := by
  have hnot : ∀ s ∈ ps, s.id ≠ r.id := fun s hs e => by
    have := h.gone s hs
    rw [e, hl] at this
    cases this
  refine ⟨?_, fun s hs => ?_, fun s hs => ?_, fun s hs => ?_⟩
  · rw [List.map_append, List.nodup_append]
    refine ⟨h.nodup, by simp, fun a ha b hb e => ?_⟩
    simp only [List.map_cons, List.map_nil, List.mem_cons, List.not_mem_nil, or_false] at hb
    obtain ⟨s, hs, rfl⟩ := List.mem_map.1 ha
    exact hnot s hs (e.trans hb)
  · rcases List.mem_append.1 hs with hs | hs
    · exact h.sub s hs
    · simp only [List.mem_cons, List.not_mem_nil, or_false] at hs
      rw [hs]; exact hr
  · rcases List.mem_append.1 hs with hs | hs
    · rw [h.gone s hs]; rfl
    · simp only [List.mem_cons, List.not_mem_nil, or_false] at hs
      subst hs
      rw [sameKey_int]; simp
  · rcases h.rest s hs with h1 | h1
    · exact .inl (List.mem_append_left _ h1)
    · by_cases e : s.id = r.id
      · left
        rw [id_eq hn hs hr e]
        simp
      · right
        rw [sameKey_int, h1]; simp [e]
theorem CollR.perm {K : List Rep} {left : Lit → Bool} {ps : List Rep} (h : CollR K left ps) (hn : (K.map Rep.id).Nodup) (hl : ∀ kl, left kl = false) : ps.Perm K := by
  have nd : ∀ {l : List Rep}, (l.map Rep.id).Nodup → l.Nodup := fun {l} hl => by
    have h3 : l.Pairwise fun a b => a.id ≠ b.id := List.pairwise_map.1 hl
    exact h3.imp fun {a b} hab e => hab (by rw [e])
  refine (List.perm_ext_iff_of_nodup (nd h.nodup) (nd hn)).2 fun r => ⟨h.sub r, fun hr => ?_⟩
  rcases h.rest r hr with h1 | h1
  · exact h1
  · rw [hl] at h1; cases h1
theorem CollR.len {K : List Rep} {left : Lit → Bool} {ps : List Rep} (h : CollR K left ps) : ps.length ≤ K.length := by
  have := sub_len (ps.map Rep.id) (K.map Rep.id) h.nodup fun x hx => by
    obtain ⟨r, hr, rfl⟩ := List.mem_map.1 hx
    exact List.mem_map_of_mem (h.sub r hr)
  simpa using this

end Go.Proofs.YtkpaikampmeooaaGreatDoor

namespace Go.Proofs.YtkpaikampmeooaaGreatDoor

/-- Each is before the next one. -/
def chB {α : Type} (lt : α → α → Bool) : List α → Bool
  | a :: b :: t => lt a b && chB lt (b :: t)
  | _ => true
theorem chB_iff {α : Type} {lt : α → α → Bool} : ∀ {l : List α}, chB lt l = true ↔ ∀ i, (h : i + 1 < l.length) → lt (l[i]'(by omega)) l[i + 1] = true
  | [] => by simp [chB]
  | [a] => by simp [chB]
  | a :: b :: t => by
    simp only [chB, Bool.and_eq_true]
    rw [chB_iff (l := b :: t)]
    constructor
    · rintro ⟨h1, h2⟩ i hi
      cases i with
      | zero => exact h1
      | succ i => exact h2 i (by simpa using hi)
    · intro h
      refine ⟨h 0 (by simp), fun i hi => ?_⟩
      exact h (i + 1) (by simpa using hi)
theorem chB_pair {α : Type} {lt : α → α → Bool} (ht : ∀ a b c, lt a b = true → lt b c = true → lt a c = true) : ∀ {l : List α}, chB lt l = true → l.Pairwise fun a b => lt a b = true
  | [], _ => List.Pairwise.nil
  | [a], _ => by simp
  | a :: b :: t, h => by
    simp only [chB, Bool.and_eq_true] at h
    have h2 := chB_pair ht h.2
    refine List.Pairwise.cons (fun x hx => ?_) h2
    rcases List.mem_cons.1 hx with rfl | hx
    · exact h.1
    · exact ht _ _ _ h.1 (List.rel_of_pairwise_cons h2 hx)

structure LawT where
  land : Int
  kind : Int
  base : Int
  keep : Int
structure StillT where
  land : Int
  days : Int
  means : Int
structure HomeT where
  acc : Int
  land : Int
instance : Inhabited LawT := ⟨⟨0, 0, 0, 0⟩⟩
instance : Inhabited StillT := ⟨⟨0, 0, 0⟩⟩
instance : Inhabited HomeT := ⟨⟨0, 0⟩⟩

def lawB1 (x : LawT) : Bool := inN x.land 0 99 && inN x.kind 1 7 && inN x.base 1 3 && inN x.keep 0 100000
def lawLt (a b : LawT) : Bool := decide (a.land < b.land) || decide (a.land = b.land) && decide (a.kind < b.kind)
def lawsB (l : List LawT) : Bool := decide (l.length ≤ 40) && l.all lawB1 && chB lawLt l
def stillB1 (x : StillT) : Bool := inN x.land 0 99 && inN x.days 1 100000 && decide (x.means ≤ 2)
def stillLt (a b : StillT) : Bool := decide (a.land < b.land)
def stillsB (l : List StillT) : Bool := decide (l.length ≤ 20) && l.all stillB1 && chB stillLt l
def homeB1 (x : HomeT) : Bool := inN x.acc 0 999999 && inN x.land 0 99
def homeLt (a b : HomeT) : Bool := decide (a.acc < b.acc)
def homesB (l : List HomeT) : Bool := decide (l.length ≤ 60) && l.all homeB1 && chB homeLt l
def codeB (l : List LawT) (s : List StillT) : Bool := lawsB l && stillsB s
def check4V (l : List LawT) (s : List StillT) (h : List HomeT) : Int := if codeB l s = true then (if homesB h = true then 0 else 41) else 40
theorem check4_zero {l : List LawT} {s : List StillT} {h : List HomeT} : check4V l s h = 0 ↔ codeB l s = true ∧ homesB h = true := by
  unfold check4V
  by_cases h1 : codeB l s = true
  · rw [if_pos h1]
    by_cases h2 : homesB h = true
    · rw [if_pos h2]; exact ⟨fun _ => ⟨h1, h2⟩, fun _ => rfl⟩
    · rw [if_neg h2]; exact ⟨fun e => by omega, fun e => absurd e.2 h2⟩
  · rw [if_neg h1]; exact ⟨fun e => by omega, fun e => absurd e.1 h1⟩

/-! What is valid so far, while a list is gone through. -/
def upB {α : Type} (p : α → Bool) (lt : α → α → Bool) (l : List α) (i : Nat) : Prop := ∀ j, (hj : j < l.length) → j < i → p l[j] = true ∧ ((h0 : 0 < j) → lt (l[j - 1]'(by omega)) l[j] = true)
theorem upB_zero {α : Type} (p : α → Bool) (lt : α → α → Bool) (l : List α) : upB p lt l 0 := fun j _ h => by omega
theorem upB_end {α : Type} {p : α → Bool} {lt : α → α → Bool} {l : List α} (h : upB p lt l l.length) : (l.all p && chB lt l) = true := by
  rw [Bool.and_eq_true]
  refine ⟨List.all_eq_true.2 fun x hx => ?_, chB_iff.2 fun i hi => ?_⟩
  · obtain ⟨j, hj, rfl⟩ := List.getElem_of_mem hx
    exact (h j hj hj).1
  · simpa using (h (i + 1) hi hi).2 (by omega)
theorem upB_bad1 {α : Type} {p : α → Bool} (lt : α → α → Bool) {l : List α} {i : Nat} (hi : i < l.length) (h : p l[i] = false) : (l.all p && chB lt l) = false := by
  have : l.all p = false := List.all_eq_false.2 ⟨l[i], List.getElem_mem hi, by rw [h]; decide⟩
  rw [this]; rfl
theorem upB_bad2 {α : Type} (p : α → Bool) {lt : α → α → Bool} {l : List α} {i : Nat} (hi : i < l.length) (h0 : 0 < i) (h : lt (l[i - 1]'(by omega)) l[i] = false) : (l.all p && chB lt l) = false := by
  have : chB lt l = false := by
    rw [← Bool.not_eq_true]
    intro e
    have := chB_iff.1 e (i - 1) (by omega)
    simp only [show i - 1 + 1 = i by omega] at this
    rw [h] at this; cases this
  rw [this, Bool.and_false]
theorem upB_next {α : Type} {p : α → Bool} {lt : α → α → Bool} {l : List α} {i : Nat} (h : upB p lt l i) (hi : i < l.length) (h1 : p l[i] = true) (h2 : (h0 : 0 < i) → lt (l[i - 1]'(by omega)) l[i] = true) : upB p lt l (i + 1) := fun j hj hji => by
  by_cases e : j = i
  · subst e; exact ⟨h1, h2⟩
  · exact h j hj (by omega)

/-! Until when. -/
def landV (homes : List HomeT) (acc : Int) : Option Int := (homes.find? fun h => decide (h.acc = acc)).map HomeT.land
def landR (homes : List HomeT) (acc : Int) : Int := (landV homes acc).getD (-1)
def lawOf (laws : List LawT) (land kind : Int) : Option LawT := laws.find? fun x => decide (x.land = land ∧ x.kind = kind)
def closeStep (acc best : Int) (r : Rep) : Int := if r.acc = acc ∧ r.kind = 7 ∧ (best < 0 ∨ r.about < best) then r.about else best
def closeR (facts : List Rep) (acc : Int) : Int := facts.foldl (closeStep acc) (-1)
def lastBy (x : LawT) (facts : List Rep) (r : Rep) : Int := if x.base = 1 then r.about + x.keep else if x.base = 2 then r.made + x.keep else if closeR facts r.acc < 0 then 300000 else closeR facts r.acc + x.keep
def lastV (laws : List LawT) (homes : List HomeT) (facts : List Rep) (r : Rep) : Option Int := (lawOf laws (landR homes r.acc) r.kind).map fun x => lastBy x facts r
def shownB (laws : List LawT) (homes : List HomeT) (facts : List Rep) (r : Rep) (day : Int) : Bool := match lastV laws homes facts r with
  | none => false
  | some n => decide (r.about ≤ day) && decide (day ≤ n)
def insI (n : Int) : List Int → List Int
  | [] => [n]
  | a :: t => if n < a then n :: a :: t else a :: insI n t
theorem landV_snoc (homes : List HomeT) (h : HomeT) (acc : Int) : landV (homes ++ [h]) acc = (landV homes acc).or (if h.acc = acc then some h.land else none) := by
  unfold landV
  rw [List.find?_append]
  cases homes.find? fun h => decide (h.acc = acc) with
  | some x => simp
  | none =>
    by_cases e : h.acc = acc
    · simp [e]
    · simp [e]

/-- The error of code, homes and reports, and of the day. -/
def asked4 (laws : List LawT) (stills : List StillT) (homes : List HomeT) (l : List Rep) : Int := if check4V laws stills homes = 0 then checkV l else check4V laws stills homes
def err4 (laws : List LawT) (stills : List StillT) (homes : List HomeT) (l : List Rep) (day : Int) : Int := if asked4 laws stills homes l = 0 then (if inN day 0 100000 = true then 0 else 2) else asked4 laws stills homes l
end Go.Proofs.YtkpaikampmeooaaGreatDoor
