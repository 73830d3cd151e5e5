/- Maps from numbers to reports: what a range over one comes upon; maps as functions of numbers. -/
import Derived.Test.YtliijiflbfgfaaaDoorAKnW
import Derived.Test.YtliijiflbfgfaaaDoorAChk
import Derived.RangeFuncBox
import Derived.Maps.OwnIn
import Derived.Maps.OwnOps

namespace Go.Proofs.YtliijiflbfgfaaaDoor
open Go.RowKit Go.Maps

abbrev aggR (r : Rep) : Value := .agg #[.int .i64 r.id, .int .i64 r.src, .int .i64 r.acc, .int .i64 r.made, .int .i64 r.about, .int .u8 r.kind, .int .i64 r.cents, .int .i64 r.of_]
theorem sameKey_int (p q : Int) : (Lit.int .i64 q).sameKey (.int .i64 p) = decide (q = p) := by
  by_cases h : q = p
  · subst h; rw [WideAt.sameKey_self (show WideAt.IsKeyLit (.int .i64 q) from trivial)]; simp
  · cases hk : (Lit.int .i64 q).sameKey (.int .i64 p) with
    | false => simp [h]
    | true => have := WideAt.sameKey_eq hk; injection this with _ e; exact absurd e h
/-- What is in a map by numbers. -/
def intG (f : Int → Option Value) : Lit → Option Value := fun k => match k with | .int .i64 x => f x | _ => none
theorem intG_at (f : Int → Option Value) (x : Int) : intG f (.int .i64 x) = f x := rfl
theorem intG_put (f : Int → Option Value) (x : Int) (v : Value) : putFn (intG f) (.int .i64 x) v = intG (fun y => if y = x then some v else f y) := by
  funext k
  unfold putFn
  by_cases h : k = .int .i64 x
  · subst h; rw [if_pos rfl, intG_at, if_pos rfl]
  · rw [if_neg h]
    unfold intG
    split
    · rename_i y
      by_cases e : y = x
      · subst e; exact absurd rfl h
      · show f y = if y = x then some v else f y
        rw [if_neg e]
    · rfl
theorem intG_nil : intG (fun _ => none) = fun _ => none := by
  funext k
  unfold intG
  split <;> rfl
theorem intG_congr {f g : Int → Option Value} (h : ∀ x, f x = g x) : intG f = intG g := by rw [funext h]
open Classical in
theorem repG_eq (K : List Rep) : repG K = intG fun id => (atR K id).map fun r => .agg #[.int .i64 r.id, .int .i64 r.src, .int .i64 r.acc, .int .i64 r.made, .int .i64 r.about, .int .u8 r.kind, .int .i64 r.cents, .int .i64 r.of_] := by
  funext k
  unfold intG
  split
  · exact repG_at K _
  · rename_i h
    unfold repG
    have : (K.find? fun r => decide (k = .int .i64 r.id)) = none := by
      rw [List.find?_eq_none]
      intro r _ e
      simp only [decide_eq_true_eq] at e
      exact h _ e
    rw [this]; rfl
theorem repG_mem {K : List Rep} {x : Int} {v : Value} (h : repG K (.int .i64 x) = some v) : ∃ r ∈ K, r.id = x ∧ v = aggR r := by
  rw [repG_at] at h
  cases hr : atR K x with
  | none => rw [hr] at h; cases h
  | some r =>
    rw [hr] at h
    obtain ⟨h1, h2⟩ := atR_some hr
    exact ⟨r, h1, h2, (Option.some.inj h).symm⟩
theorem sub_len : ∀ (a b : List Int), a.Nodup → (∀ x ∈ a, x ∈ b) → a.length ≤ b.length
  | [], b, _, _ => Nat.zero_le _
  | x :: a, b, hn, hs => by
    rw [List.nodup_cons] at hn
    have hx : x ∈ b := hs x (by simp)
    have h1 := sub_len a (b.erase x) hn.2 fun y hy => (List.mem_erase_of_ne (fun e => hn.1 (by rw [← e]; exact hy))).2 (hs y (by simp [hy]))
    rw [List.length_erase_of_mem hx] at h1
    have h2 : 0 < b.length := List.length_pos_of_mem hx
    simp only [List.length_cons]
    omega

/-- Some of the reports of a map have come. -/
structure CollR (K : List Rep) (left : Lit → Bool) (ps : List Rep) : Prop where
  nodup : (ps.map Rep.id).Nodup
  sub : ∀ r ∈ ps, r ∈ K
  gone : ∀ r ∈ ps, left (.int .i64 r.id) = false
  rest : ∀ r ∈ K, r ∈ ps ∨ left (.int .i64 r.id) = true
theorem CollR.start {K : List Rep} (hn : (K.map Rep.id).Nodup) {D : DataW Value} (hat : ∀ kl z, D.atKey kl z = gotAt (repG K kl) z) : CollR K (has D) [] :=
  ⟨List.nodup_nil, fun r hr => by simp at hr, fun r hr => by simp at hr, fun r hr => .inr (by rw [has_some hat, repG_at, atR_mem hn hr]; rfl)⟩
theorem CollR.step {K : List Rep} {left : Lit → Bool} {ps : List Rep} (h : CollR K left ps) {r : Rep} (hr : r ∈ K) (hl : left (.int .i64 r.id) = true) (hn : (K.map Rep.id).Nodup) : CollR K (fun z => left z && !z.sameKey (.int .i64 r.id)) (ps ++ [r]) := by
  have hnot : ∀ s ∈ ps, s.id ≠ r.id := fun s hs e => by
    have := h.gone s hs
    rw [e, hl] at this
    cases this
  refine ⟨?_, fun s hs => ?_, fun s hs => ?_, fun s hs => ?_⟩
  · rw [List.map_append, List.nodup_append]
    refine ⟨h.nodup, by simp, fun a ha b hb e => ?_⟩
    simp only [List.map_cons, List.map_nil, List.mem_cons, List.not_mem_nil, or_false] at hb
    obtain ⟨s, hs, rfl⟩ := List.mem_map.1 ha
    exact hnot s hs (e.trans hb)
  · rcases List.mem_append.1 hs with hs | hs
    · exact h.sub s hs
    · simp only [List.mem_cons, List.not_mem_nil, or_false] at hs
      rw [hs]; exact hr
  · rcases List.mem_append.1 hs with hs | hs
    · rw [h.gone s hs]; rfl
    · simp only [List.mem_cons, List.not_mem_nil, or_false] at hs
      subst hs
      rw [sameKey_int]; simp
  · rcases h.rest s hs with h1 | h1
    · exact .inl (List.mem_append_left _ h1)
    · by_cases e : s.id = r.id
      · left
        rw [id_eq hn hs hr e]
        simp
      · right
        rw [sameKey_int, h1]; simp [e]
theorem CollR.perm {K : List Rep} {left : Lit → Bool} {ps : List Rep} (h : CollR K left ps) (hn : (K.map Rep.id).Nodup) (hl : ∀ kl, left kl = false) : ps.Perm K := by
  have nd : ∀ {l : List Rep}, (l.map Rep.id).Nodup → l.Nodup := fun {l} hl => by
    have h3 : l.Pairwise fun a b => a.id ≠ b.id := List.pairwise_map.1 hl
    exact h3.imp fun {a b} hab e => hab (by rw [e])
  refine (List.perm_ext_iff_of_nodup (nd h.nodup) (nd hn)).2 fun r => ⟨h.sub r, fun hr => ?_⟩
  rcases h.rest r hr with h1 | h1
  · exact h1
  · rw [hl] at h1; cases h1
theorem CollR.len {K : List Rep} {left : Lit → Bool} {ps : List Rep} (h : CollR K left ps) : ps.length ≤ K.length := by
  have := sub_len (ps.map Rep.id) (K.map Rep.id) h.nodup fun x hx => by
    obtain ⟨r, hr, rfl⟩ := List.mem_map.1 hx
    exact List.mem_map_of_mem (h.sub r hr)
  simpa using this

end Go.Proofs.YtliijiflbfgfaaaDoor
