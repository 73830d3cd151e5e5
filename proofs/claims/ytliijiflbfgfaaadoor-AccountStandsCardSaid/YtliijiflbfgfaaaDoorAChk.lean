/- Whether reports with the same number are the same, and the whole check, by the program. -/
import Derived.Test.YtliijiflbfgfaaaDoorAList
import Derived.Laws.StructEq

namespace Go.Proofs.YtliijiflbfgfaaaDoor
open Go.RowKit Go.Maps

theorem repZero (w : World) : (zeroValue 47).run Tryd.prog w = .ok (.agg #[.int .i64 0, .int .i64 0, .int .i64 0, .int .i64 0, .int .i64 0, .int .u8 0, .int .i64 0, .int .i64 0]) w := by kernel_rfl
open Classical in
/-- Which report has a number. -/
noncomputable def repG (l : List Rep) : Lit → Option Value := fun k => (l.find? fun r => decide (k = .int .i64 r.id)).map fun r => .agg #[.int .i64 r.id, .int .i64 r.src, .int .i64 r.acc, .int .i64 r.made, .int .i64 r.about, .int .u8 r.kind, .int .i64 r.cents, .int .i64 r.of_]
theorem repG_nil : repG [] = fun _ => none := rfl
open Classical in
theorem repG_at (l : List Rep) (id : Int) : repG l (.int .i64 id) = (atR l id).map fun r => .agg #[.int .i64 r.id, .int .i64 r.src, .int .i64 r.acc, .int .i64 r.made, .int .i64 r.about, .int .u8 r.kind, .int .i64 r.cents, .int .i64 r.of_] := by
  unfold repG atR
  congr 2
  funext r
  rw [decide_eq_decide]
  constructor
  · intro e; injection e with _ e; exact e.symm
  · intro e; rw [e]
open Classical in
theorem repG_snoc (l : List Rep) (r : Rep) : repG (l ++ [r]) = if atR l r.id = none then putFn (repG l) (.int .i64 r.id) (.agg #[.int .i64 r.id, .int .i64 r.src, .int .i64 r.acc, .int .i64 r.made, .int .i64 r.about, .int .u8 r.kind, .int .i64 r.cents, .int .i64 r.of_]) else repG l := by
  funext k
  by_cases hn : atR l r.id = none
  · rw [if_pos hn]
    unfold putFn
    by_cases hk : k = .int .i64 r.id
    · rw [if_pos hk, hk, repG_at]
      unfold atR at hn ⊢
      rw [List.find?_append, hn]
      simp
    · rw [if_neg hk]
      unfold repG
      rw [List.find?_append]
      have : ([r].find? fun y => decide (k = .int .i64 y.id)) = none := by simp [hk]
      rw [this, Option.or_none]
  · rw [if_neg hn]
    unfold repG
    rw [List.find?_append]
    by_cases hk : k = .int .i64 r.id
    · have : (l.find? fun y => decide (k = .int .i64 y.id)) ≠ none := by
        intro e
        apply hn
        have h2 := repG_at l r.id
        unfold repG at h2
        rw [← hk, e] at h2
        cases h3 : atR l r.id with
        | none => rfl
        | some s => rw [h3] at h2; cases h2
      cases h4 : l.find? fun y => decide (k = .int .i64 y.id) with
      | none => exact absurd h4 this
      | some s => rfl
    · have : ([r].find? fun y => decide (k = .int .i64 y.id)) = none := by simp [hk]
      rw [this, Option.or_none]
/-- A report that is there already, put in once more. -/
theorem repG_same (l : List Rep) (r : Rep) (h : atR l r.id = some r) : putFn (repG l) (.int .i64 r.id) (.agg #[.int .i64 r.id, .int .i64 r.src, .int .i64 r.acc, .int .i64 r.made, .int .i64 r.about, .int .u8 r.kind, .int .i64 r.cents, .int .i64 r.of_]) = repG l := by
  funext k
  unfold putFn
  by_cases hk : k = .int .i64 r.id
  · rw [if_pos hk, hk, repG_at, h]; rfl
  · rw [if_neg hk]

/-- No two that differ have the same number, in the first i. -/
def OneId (l : List Rep) : Prop := ∀ r ∈ l, ∀ s ∈ l, r.id = s.id → r = s
theorem oneId_snoc {l : List Rep} {r : Rep} (h : OneId l) (hr : ∀ s, atR l r.id = some s → s = r) : OneId (l ++ [r]) := by
  have hx : ∀ s ∈ l, s.id = r.id → s = r := fun s hs e => by
    cases h1 : atR l r.id with
    | none => exact absurd e (atR_none.1 h1 s hs)
    | some q =>
      obtain ⟨hq, eq⟩ := atR_some h1
      rw [h s hs q hq (e.trans eq.symm), hr q h1]
  intro a ha b hb e
  rcases List.mem_append.1 ha with ha1 | ha1 <;> rcases List.mem_append.1 hb with hb1 | hb1
  · exact h a ha1 b hb1 e
  · simp only [List.mem_cons, List.not_mem_nil, or_false] at hb1
    rw [hb1] at e ⊢
    exact hx a ha1 e
  · simp only [List.mem_cons, List.not_mem_nil, or_false] at ha1
    rw [ha1] at e ⊢
    exact (hx b hb1 e.symm).symm
  · simp only [List.mem_cons, List.not_mem_nil, or_false] at ha1 hb1
    rw [ha1, hb1]
theorem put_snoc {l : List Rep} {r : Rep} (hr : ∀ s, atR l r.id = some s → s = r) : putFn (repG l) (.int .i64 r.id) (.agg #[.int .i64 r.id, .int .i64 r.src, .int .i64 r.acc, .int .i64 r.made, .int .i64 r.about, .int .u8 r.kind, .int .i64 r.cents, .int .i64 r.of_]) = repG (l ++ [r]) := by
  rw [repG_snoc]
  cases h : atR l r.id with
  | none => rw [if_pos rfl]
  | some s =>
    rw [if_neg (by simp)]
    obtain rfl := hr s h
    exact repG_same l s h

set_option maxRecDepth 100000 in
set_option maxHeartbeats 4000000 in
theorem oneOfEachId_any (l : List Rep) (A : Option Addr) (c : Nat) (w : World) (h : Reps w w.heap.size A l) (hl : l.length ≤ 1000) (hid : ∀ r ∈ l, (Lit.int .i64 r.id).wf = true) :
    Calls Tryd.prog 23 #[.slice A l.length c] w fun e w' => e = .returned (.bool (!clashB l)) ∧ Below w.heap.size w w' := by
  have hmm := @run_makeMap Tryd.prog
  have hM0 : MapFn (w.alloc (.map #[] 0)) Tryd.prog 3 w.heap.size 0 (repG (l.take 0)) := MapFn.made w Tryd.prog 3
  have HI0 : Hid (MapFn (w.alloc (.map #[] 0)) Tryd.prog 3 w.heap.size 0 (repG (l.take 0)) ∧ OneId (l.take 0) ∧ Below w.heap.size w (w.alloc (.map #[] 0))) := Lib.hid ⟨hM0, fun r hr => by simp at hr, (Below.refl _ _).alloc (Nat.le_refl _) _⟩
  clear hM0
  have Hid' := Lib.hid hid
  clear hid
  go_enter Tryd.func23, Tryd.ntmps23
  go_wp2_with fail
  go_loopw [11] (fun ii wr => ∃ i : Nat, i ≤ l.length ∧ ii = .int .i64 i ∧ Hid (MapFn wr Tryd.prog 3 w.heap.size i (repG (l.take i)) ∧ OneId (l.take i) ∧ Below w.heap.size w wr)) (fun ii _ => l.length - (vInt ii).toNat)
  case atStart => exact ⟨0, Nat.zero_le _, rfl, HI0⟩
  case round =>
    obtain ⟨i, hi, rfl, hR⟩ := hrel
    clear HI0
    by_cases hlt : i < l.length
    · as_aux_lemma =>
      have hil : (i : Int) < (l.length : Int) := by omega
      obtain ⟨hM, hO, hB⟩ := hR.out
      obtain ⟨b, off, rfl, hb, C⟩ := (h.later hB).eight hlt
      have hwf := Hid'.out _ (List.getElem_mem hlt)
      have HT : Hid (l.take i ++ [l[i]] = l.take (i + 1)) := Lib.hid (List.take_succ_eq_append_getElem hlt).symm
      have hmem : ∀ s, s ∈ l.take i → s ∈ l := fun s hs => List.mem_of_mem_take hs
      have hri : l[i] ∈ l := List.getElem_mem hlt
      generalize l[i] = r at *
      obtain ⟨c0, c1, c2, c3, c4, c5, c6, c7⟩ := C
      have hM1 := hM.alloc (.cells #[.int .i64 r.id, .int .i64 r.src, .int .i64 r.acc, .int .i64 r.made, .int .i64 r.about, .int .u8 r.kind, .int .i64 r.cents, .int .i64 r.of_] 47)
      have look := hM1.lookOk (int_keyed Tryd.underlying3) Tryd.underlying36 (repZero _) (keyOf_int_mk Tryd.underlying3 hwf)
      rw [repG_at] at look
      have hzB := hB.size
      have hltB := hM.lt
      cases ha : atR (l.take i) r.id with
      | none =>
        rw [ha] at look
        simp only [Option.map_none, Option.getD_none, Option.isSome_none] at look
        obtain ⟨w3, hrun3, hput, hg3⟩ := (hM1.alloc (.cells #[.int .i64 0, .int .i64 0, .int .i64 0, .int .i64 0, .int .i64 0, .int .u8 0, .int .i64 0, .int .i64 0] 47)).put (int_keyed Tryd.underlying3) Tryd.underlying36 (by unfold maxLen; omega) (keyOf_int_mk Tryd.underlying3 hwf) (val := .agg #[.int .i64 r.id, .int .i64 r.src, .int .i64 r.acc, .int .i64 r.made, .int .i64 r.about, .int .u8 r.kind, .int .i64 r.cents, .int .i64 r.of_])
        have hnone : ∀ s, atR (l.take i) r.id = some s → s = r := fun s e => by rw [ha] at e; cases e
        rw [put_snoc hnone, HT.out] at hput
        have HJ : Hid (MapFn w3 Tryd.prog 3 w.heap.size (i + 1) (repG (l.take (i + 1))) ∧ OneId (l.take (i + 1)) ∧ Below w.heap.size w w3) := Lib.hid ⟨hput, HT.out ▸ oneId_snoc hO hnone, ((hB.alloc hzB _).alloc (by simp; omega) _).grown hg3 (by simp; omega) (fun k e => by have := Option.some.inj e; omega)⟩
        clear hput hM1 hM hO hR hnone ha
        go_wp2_with fail
        go_roundw
        case rel => exact ⟨i + 1, by omega, by go_num, HJ⟩
        case measure => simp [vInt]; omega
      | some s =>
        rw [ha] at look
        simp only [Option.map_some, Option.getD_some, Option.isSome_some] at look
        obtain ⟨hs, es⟩ := atR_some ha
        by_cases hsr : s = r
        · subst hsr
          obtain ⟨w3, hrun3, hput, hg3⟩ := (hM1.alloc (.cells #[.int .i64 s.id, .int .i64 s.src, .int .i64 s.acc, .int .i64 s.made, .int .i64 s.about, .int .u8 s.kind, .int .i64 s.cents, .int .i64 s.of_] 47)).put (int_keyed Tryd.underlying3) Tryd.underlying36 (by unfold maxLen; omega) (keyOf_int_mk Tryd.underlying3 hwf) (val := .agg #[.int .i64 s.id, .int .i64 s.src, .int .i64 s.acc, .int .i64 s.made, .int .i64 s.about, .int .u8 s.kind, .int .i64 s.cents, .int .i64 s.of_])
          have hnone : ∀ q, atR (l.take i) s.id = some q → q = s := fun q e => by rw [ha] at e; exact (Option.some.inj e).symm
          rw [put_snoc hnone, HT.out] at hput
          have HJ : Hid (MapFn w3 Tryd.prog 3 w.heap.size (i + 1) (repG (l.take (i + 1))) ∧ OneId (l.take (i + 1)) ∧ Below w.heap.size w w3) := Lib.hid ⟨hput, HT.out ▸ oneId_snoc hO hnone, ((hB.alloc hzB _).alloc (by simp; omega) _).grown hg3 (by simp; omega) (fun k e => by have := Option.some.inj e; omega)⟩
          clear hput hM1 hM hO hR hnone ha hs es
          go_wp2_with fail
          go_roundw
          case rel => exact ⟨i + 1, by omega, by go_num, HJ⟩
          case measure => simp [vInt]; omega
        · have hc : clashB l = true := by
            cases hcl : clashB l with
            | true => rfl
            | false => exact absurd (clashB_iff.1 hcl s (hmem s hs) r hri es) hsr
          have Hc := Lib.hid hc
          have Hne : Hid (¬ (s.id = r.id ∧ s.src = r.src ∧ s.acc = r.acc ∧ s.made = r.made ∧ s.about = r.about ∧ s.kind = r.kind ∧ s.cents = r.cents ∧ s.of_ = r.of_)) := Lib.hid (fun ⟨a1, a2, a3, a4, a5, a6, a7, a8⟩ => hsr (by cases s; cases r; simp_all))
          have hfin : ∀ o o', Below w.heap.size w ((wr.alloc o).alloc o') := fun o o' => (hB.alloc hzB o).alloc (by simp; omega) o'
          clear hM1 hM hO hR ha hs hsr hc hmem hri HT
          go_wp2_with fail
          all_goals first
            | (exfalso; apply Hne.out; refine ⟨?_, ?_, ?_, ?_, ?_, ?_, ?_, ?_⟩ <;> assumption)
            | (go_ret; exact ⟨by rw [Hc.out]; rfl, hfin _ _⟩)
    · have hil : ¬ (i : Int) < (l.length : Int) := by omega
      have hc : Hid (clashB l = false) := Lib.hid (clashB_iff.2 (by
        have q := hR.out.2.1
        rw [List.take_of_length_le (by omega)] at q
        exact q))
      have hfin := hR.out.2.2
      clear hR
      go_wp2_with fail
      go_ret
      exact ⟨by rw [hc.out]; rfl, hfin⟩

end Go.Proofs.YtliijiflbfgfaaaDoor
