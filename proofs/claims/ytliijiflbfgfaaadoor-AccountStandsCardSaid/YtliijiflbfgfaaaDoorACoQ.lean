/- Corrections, by the program: the plain part. Written by gencop.py. -/
import Derived.Test.YtliijiflbfgfaaaDoorAWdP

namespace Go.Proofs.YtliijiflbfgfaaaDoor
open Go.RowKit Go.Maps

/-- The corrections that the program keeps after some. -/
def coM (K cs : List Rep) : Int → Option Value := fun id => match atR (leftL K) id with
  | none => none
  | some r => if r.kind ≤ 7 then (corP K cs id).map fun c => .agg #[.int .i64 c.id, .int .i64 c.src, .int .i64 c.acc, .int .i64 c.made, .int .i64 c.about, .int .u8 c.kind, .int .i64 c.cents, .int .i64 c.of_] else none
def coMV (K : List Rep) : Int → Option Value := fun id => (corK K id).map fun c => .agg #[.int .i64 c.id, .int .i64 c.src, .int .i64 c.acc, .int .i64 c.made, .int .i64 c.about, .int .u8 c.kind, .int .i64 c.cents, .int .i64 c.of_]
theorem coM_nil (K : List Rep) : coM K [] = noM := by
  funext id
  unfold coM noM
  split
  · rfl
  · rw [corP_nil]; simp
theorem atR_left {K : List Rep} (hn : (K.map Rep.id).Nodup) {id : Int} {r : Rep} (h : atR (leftL K) id = some r) : atR K id = some r ∧ wdV K id < 0 := by
  obtain ⟨h1, rfl⟩ := atR_some h
  obtain ⟨h2, h3⟩ := List.mem_filter.1 h1
  exact ⟨atR_mem hn h2, by simpa using h3⟩
theorem leftL_nodup {K : List Rep} (hn : (K.map Rep.id).Nodup) : ((leftL K).map Rep.id).Nodup := hn.sublist (List.filter_sublist.map Rep.id)
theorem left_atR {K : List Rep} (hn : (K.map Rep.id).Nodup) {id : Int} {r : Rep} (h : atR K id = some r) (hw : wdV K id < 0) : atR (leftL K) id = some r := by
  obtain ⟨h1, rfl⟩ := atR_some h
  exact atR_mem (leftL_nodup hn) (List.mem_filter.2 ⟨h1, by simpa using hw⟩)
theorem corB_other {K : List Rep} {id : Int} {c : Rep} (h : c.of_ ≠ id) : corB K id c = false := by unfold corB; simp [h]
/-- Whether a correction works so far. -/
theorem coM_skip {K cs : List Rep} {c : Rep} (h : ∀ r, atR (leftL K) c.of_ = some r → r.kind ≤ 7 → corB K c.of_ c = false) : coM K (cs ++ [c]) = coM K cs := by
  funext id
  unfold coM
  cases hr : atR (leftL K) id with
  | none => rfl
  | some r =>
    dsimp only
    by_cases hk : r.kind ≤ 7
    · rw [if_pos hk, if_pos hk, corP_step]
      by_cases e : c.of_ = id
      · subst e
        rw [h r hr hk]
        rfl
      · rw [corB_other e]; rfl
    · rw [if_neg hk, if_neg hk]
theorem coM_put {K cs : List Rep} {c r : Rep} (hr : atR (leftL K) c.of_ = some r) (hk : r.kind ≤ 7) (hb : corB K c.of_ c = true) : (fun y => if y = c.of_ then some (Value.agg #[.int .i64 c.id, .int .i64 c.src, .int .i64 c.acc, .int .i64 c.made, .int .i64 c.about, .int .u8 c.kind, .int .i64 c.cents, .int .i64 c.of_]) else coM K cs y) = coM K (cs ++ [c]) := by
  funext id
  by_cases e : id = c.of_
  · subst e
    rw [if_pos rfl]
    unfold coM
    rw [hr]
    dsimp only
    rw [if_pos hk, corP_step, if_pos hb]
    rfl
  · rw [if_neg e]
    unfold coM
    cases hr2 : atR (leftL K) id with
    | none => rfl
    | some s =>
      dsimp only
      rw [corP_step, corB_other (fun h => e h.symm)]
      rfl
theorem corB_of {K : List Rep} {c r : Rep} (hn : (K.map Rep.id).Nodup) (h8 : c.kind = 8) (hw : wdV K c.id < 0) (hr : atR (leftL K) c.of_ = some r) : corB K c.of_ c = ((decide (r.src = c.src) && decide (r.acc = c.acc)) && centsB r.kind c.cents) := by
  have h1 := (atR_left hn hr).1
  unfold corB aimsB kindAt
  rw [h1]
  simp [h8, hw]
theorem coM_end {K cs : List Rep} (hK : KnOk K) (hp : cs.Perm ((leftL K).filter (kindK 8))) (hs : cs.Pairwise leM) : coM K cs = coMV K := by
  have hp2 : cs.Perm (leftK K 8) := by
    have e : (leftL K).filter (kindK 8) = leftK K 8 := by
      unfold leftL leftK
      rw [List.filter_filter]
      refine List.filter_congr fun r _ => ?_
      simp [kindK]
    rw [← e]; exact hp
  have hnd : (cs.map Rep.id).Nodup := (hp.map Rep.id).nodup_iff.2 (((leftL_nodup hK.nodup)).sublist (List.filter_sublist.map Rep.id))
  have hs2 : cs.Pairwise fun a b => laterB b a = true := by
    have q : cs.Pairwise fun a b => a.id ≠ b.id := List.pairwise_map.1 hnd
    refine (hs.and q).imp fun {a b} h => ?_
    obtain ⟨h1, h2⟩ := h
    rw [laterB_iff]
    rcases h1 with h1 | ⟨h1, h3⟩
    · exact .inl h1
    · exact .inr ⟨h1.symm, by omega⟩
  funext id
  unfold coM coMV corK
  by_cases hw : wdV K id < 0
  · cases hr : atR K id with
    | none =>
      have : atR (leftL K) id = none := by
        cases h : atR (leftL K) id with
        | none => rfl
        | some s => rw [(atR_left hK.nodup h).1] at hr; cases hr
      rw [this]; rfl
    | some r =>
      rw [left_atR hK.nodup hr hw]
      dsimp only
      have hid : r.id = id := (atR_some hr).2
      by_cases hk : r.kind ≤ 7
      · rw [if_pos hk, if_pos (by unfold factB; rw [hid]; simp [hk, hw]), corP_end hK.nodup hp2 hs2]
      · rw [if_neg hk, if_neg (by unfold factB; simp [hk])]; rfl
  · have h1 : atR (leftL K) id = none := by
      cases h : atR (leftL K) id with
      | none => rfl
      | some s => exact absurd (atR_left hK.nodup h).2 hw
    rw [h1]
    cases hr : atR K id with
    | none => rfl
    | some r =>
      dsimp only
      have hid : r.id = id := (atR_some hr).2
      rw [if_neg (by unfold factB; rw [hid]; simp; intro _; omega)]; rfl
theorem coMV_some {K : List Rep} {x : Int} {v : Value} (h : coMV K x = some v) : ∃ c, corK K x = some c ∧ v = .agg #[.int .i64 c.id, .int .i64 c.src, .int .i64 c.acc, .int .i64 c.made, .int .i64 c.about, .int .u8 c.kind, .int .i64 c.cents, .int .i64 c.of_] := by
  unfold coMV at h
  cases hc : corK K x with
  | none => rw [hc] at h; cases h
  | some c => rw [hc] at h; exact ⟨c, rfl, (Option.some.inj h).symm⟩
theorem KnOk.left {K : List Rep} (h : KnOk K) : KnOk (leftL K) := ⟨Nat.le_trans (List.length_filter_le _ _) h.len, leftL_nodup h.nodup, fun r hr => h.id r (List.mem_filter.1 hr).1, fun r hr => h.kind r (List.mem_filter.1 hr).1⟩
/-- Whether one works, while corrections that work are noted. -/
def notedP (K : List Rep) (left : Lit → Bool) (id : Int) : Prop := (wkMV K id).isSome = true ∨ ∃ k, left (.int .i64 k) = false ∧ (corK K k).map Rep.id = some id
open Classical in
noncomputable def wkC (K : List Rep) (left : Lit → Bool) : Int → Option Value := fun id => if notedP K left id then some (.bool true) else none
theorem wkMV_val {K : List Rep} {id : Int} (h : (wkMV K id).isSome = true) : wkMV K id = some (.bool true) := by
  unfold wkMV at h ⊢
  split
  · rfl
  · rename_i hn; rw [if_neg hn] at h; cases h
theorem wkC_start {K : List Rep} {D : DataW Value} (hat : ∀ kl z, D.atKey kl z = gotAt (intG (coMV K) kl) z) : wkMV K = wkC K (has D) := by
  funext id
  unfold wkC
  by_cases h : notedP K (has D) id
  · rw [if_pos h]
    rcases h with h | ⟨k, h1, h2⟩
    · exact wkMV_val h
    · rw [has_some hat, intG_at] at h1
      unfold coMV at h1
      cases hc : corK K k with
      | none => rw [hc] at h2; cases h2
      | some c => rw [hc] at h1; cases h1
  · rw [if_neg h]
    cases hw : wkMV K id with
    | none => rfl
    | some v => exact absurd (.inl (by rw [hw]; rfl)) h
theorem wkC_step {K : List Rep} {left : Lit → Bool} {x : Int} {c : Rep} (hx : corK K x = some c) : (fun y => if y = c.id then some (Value.bool true) else wkC K left y) = wkC K (fun z => left z && !z.sameKey (.int .i64 x)) := by
  funext id
  have hs : ∀ k, ((left (.int .i64 k) && !(Lit.int .i64 k).sameKey (.int .i64 x)) = false ↔ left (.int .i64 k) = false ∨ k = x) := fun k => by
    rw [sameKey_int]
    by_cases e : k = x <;> simp [e]
  by_cases e : id = c.id
  · subst e
    rw [if_pos rfl]
    unfold wkC
    rw [if_pos (.inr ⟨x, (hs x).2 (.inr rfl), by rw [hx]; rfl⟩)]
  · rw [if_neg e]
    unfold wkC
    have hiff : notedP K left id ↔ notedP K (fun z => left z && !z.sameKey (.int .i64 x)) id := by
      unfold notedP
      constructor
      · rintro (h | ⟨k, h1, h2⟩)
        · exact .inl h
        · exact .inr ⟨k, (hs k).2 (.inl h1), h2⟩
      · rintro (h | ⟨k, h1, h2⟩)
        · exact .inl h
        · rcases (hs k).1 h1 with h1 | rfl
          · exact .inr ⟨k, h1, h2⟩
          · rw [hx] at h2
            exact absurd (by simpa using h2 : c.id = id).symm e
    by_cases h : notedP K left id
    · rw [if_pos h, if_pos (hiff.1 h)]
    · rw [if_neg h, if_neg (fun h2 => h (hiff.2 h2))]
/-- All that work. -/
def wkA (K : List Rep) : Int → Option Value := fun id => if worksB K id = true then some (.bool true) else none
theorem wkC_end {K : List Rep} {left : Lit → Bool} (hl : ∀ kl, left kl = false) : wkC K left = wkA K := by
  funext id
  unfold wkC wkA
  have hiff : notedP K left id ↔ worksB K id = true := by
    unfold notedP worksB wkMV
    constructor
    · rintro (h | ⟨k, _, h⟩)
      · by_cases hq : (K.any fun w => decide (w.id = id) && (decide (w.kind = 9) && worksW K w)) = true
        · obtain ⟨r, hr, h2⟩ := List.any_eq_true.1 hq
          simp only [Bool.and_eq_true, decide_eq_true_eq] at h2
          exact List.any_eq_true.2 ⟨r, hr, by simp [h2.1, h2.2.1, h2.2.2]⟩
        · rw [if_neg hq] at h; cases h
      · cases hc : corK K k with
        | none => rw [hc] at h; cases h
        | some c =>
          rw [hc] at h
          have hid : c.id = id := by simpa using h
          obtain ⟨r, h3, hf, hv⟩ := corK_some hc
          obtain ⟨hcK, _⟩ := corV_some hv
          obtain ⟨hrK, hri⟩ := atR_some h3
          refine List.any_eq_true.2 ⟨c, hcK, ?_⟩
          have : (K.any fun s => decide ((corK K s.id).map Rep.id = some id)) = true := List.any_eq_true.2 ⟨r, hrK, by rw [hri, hc]; simp [hid]⟩
          rw [this, Bool.or_true, Bool.and_true]
          exact decide_eq_true hid
    · intro hh
      obtain ⟨r, hr, h⟩ := List.any_eq_true.1 hh
      simp only [Bool.and_eq_true, Bool.or_eq_true, decide_eq_true_eq] at h
      rcases h.2 with h2 | h2
      · left
        rw [if_pos (List.any_eq_true.2 ⟨r, hr, by simp [h.1, h2.1, h2.2]⟩)]; rfl
      · right
        obtain ⟨s, _, h3⟩ := List.any_eq_true.1 h2
        exact ⟨s.id, hl _, by simpa using h3⟩
  by_cases h : worksB K id = true
  · rw [if_pos h, if_pos (hiff.2 h)]
  · rw [if_neg h, if_neg (fun h2 => h (hiff.1 h2))]

end Go.Proofs.YtliijiflbfgfaaaDoor
