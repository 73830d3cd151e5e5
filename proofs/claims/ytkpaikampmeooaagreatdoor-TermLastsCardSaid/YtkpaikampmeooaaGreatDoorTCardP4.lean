/- The facts that stand, with the errors, by the reference; what is asked of what is known. -/
import Derived.Test.YtkpaikampmeooaaGreatDoorAStd
import Derived.Test.YtkpaikampmeooaaGreatDoorTCardP2
import Derived.Test.YtkpaikampmeooaaGreatDoorAChkR
import Derived.Test.YtkpaikampmeooaaGreatDoorTCardP3
import Derived.RangeFuncKeeps

namespace Go.Proofs.YtkpaikampmeooaaGreatDoor
open Go.RowKit Go.Maps

theorem validB_parts {r : Rep} (h : validB r = true) : (0 ≤ r.id ∧ r.id ≤ 999999) ∧ (0 ≤ r.src ∧ r.src ≤ 999999) ∧ (0 ≤ r.acc ∧ r.acc ≤ 999999) ∧ (0 ≤ r.made ∧ r.made ≤ 100000) ∧ (0 ≤ r.about ∧ r.about ≤ 100000) ∧ (1 ≤ r.kind ∧ r.kind ≤ 9) := by
  unfold validB at h
  simp only [Bool.and_eq_true, inN_iff] at h
  obtain ⟨⟨⟨⟨⟨⟨h1, h2⟩, h3⟩, h4⟩, h5⟩, h6⟩, _⟩ := h
  exact ⟨h1, h2, h3, h4, h5, h6⟩
theorem knOk_of {l : List Rep} (h : checkV l = 0) (d : Int) : KnOk (knownL l d) := by
  obtain ⟨h1, h2, h3⟩ := checkV_zero.1 h
  have hs := knownL_spec (d := d) l
  exact ⟨Nat.le_trans (knownL_le l d) (by omega), hs.1, fun r hr => (validB_parts (h2 r (hs.2.1 r hr).1)).1, fun r hr => (validB_parts (h2 r (hs.2.1 r hr).1)).2.2.2.2.2⟩
def standE (l : List Rep) (d : Int) : Int := if checkV l = 0 then (if inN d 0 100000 = true then 0 else 2) else checkV l
def standR (l : List Rep) (d : Int) : List Rep := if standE l d = 0 then standL (knownL l d) else []
theorem own_base {w : World} {base base' : Nat} {e : TypeId} {size : Nat} {v : Value} {n : Nat} {xs : List Value} (h : w.ownsRow base e size v n xs) (hb : base' ≤ base) : w.ownsRow base' e size v n xs := by
  refine ⟨h.1, ?_⟩
  rcases h.2 with h0 | ⟨g, cap, cur, h1, h2, h3, h4⟩
  · exact .inl h0
  · exact .inr ⟨g, cap, cur, h1, Nat.le_trans hb h2, h3, h4⟩

set_option maxRecDepth 100000 in
set_option maxHeartbeats 1000000 in
theorem standing3F_any (l : List Rep) (A : Option Addr) (c : Nat) (d : Int) (w : World) (h : Reps w w.heap.size A l) (hl : l.length ≤ 1000) (hwf : ∀ r ∈ l, RepWf r) :
    Calls Tryz.prog 21 #[.slice A l.length c, .int .i64 d] w fun e w' => ∃ v, e = .returned (.tuple #[v, .int .i64 (standE l d)]) ∧ w'.ownsRow w.heap.size 56 8 v (standR l d).length ((standR l d).flatMap repCells) ∧ Below w.heap.size w w' := by
  have HCk := Lib.hid (check3_any l A c w h (by unfold maxLen; omega) hwf)
  by_cases hc : checkV l = 0
  · have Hc := Lib.hid hc
    rw [hc] at HCk
    cases hd : inN d 0 100000 with
    | false =>
      have He : Hid (standE l d = 2) := Lib.hid (by unfold standE; rw [if_pos hc, hd]; rfl)
      have HR : Hid (standR l d = []) := Lib.hid (by unfold standR; rw [He.out]; rfl)
      have HWi := Lib.hid (fun W => hd ▸ within3_any d 0 100000 W)
      clear hc hd
      go_enter Tryz.func21, Tryz.ntmps21
      go_wp2_with (first
        | (go_at_call 38; (with_reducible refine (HCk.out).mono ?_); rintro e w1 ⟨rfl, h1⟩)
        | (go_at_call 39; (with_reducible refine (HWi.out _).mono ?_); rintro e w2 ⟨rfl, rfl⟩))
      go_ret2
      exact ⟨_, by rw [He.out]; rfl, by rw [HR.out]; exact World.ownsRow_nil _ _ _ _, h1⟩
    | true =>
      have He : Hid (standE l d = 0) := Lib.hid (by unfold standE; rw [if_pos hc, hd]; rfl)
      have HR : Hid (standR l d = standL (knownL l d)) := Lib.hid (by unfold standR; rw [He.out]; rfl)
      have HWi := Lib.hid (fun W => hd ▸ within3_any d 0 100000 W)
      clear hc hd
      go_enter Tryz.func21, Tryz.ntmps21
      go_wp2_with (first
        | (go_at_call 38; (with_reducible refine (HCk.out).mono ?_); rintro e w1 ⟨rfl, h1⟩)
        | (go_at_call 39; (with_reducible refine (HWi.out _).mono ?_); rintro e w2 ⟨rfl, rfl⟩)
        | (go_at_call 41; (with_reducible refine (known3_any l A c d _ (h.later h1) hl).mono ?_); rintro e w3 ⟨v, rfl, hown, h3⟩; obtain ⟨A', c', rfl⟩ := own_slice hown; have hRK := Lib.hid (reps_own hown); have hb3 := h1.trans (h3.mono h1.size); clear hown)
        | (go_at_call 40; (with_reducible refine (standing3_any (knownL l d) A' c' _ hRK.out (knOk_of Hc.out d)).mono ?_); rintro e w4 ⟨v, rfl, hown, h4⟩))
      go_ret2
      exact ⟨_, by rw [He.out]; rfl, by rw [HR.out]; exact own_base hown hb3.size, hb3.trans (h4.mono hb3.size)⟩
  · have hc0 : (checkV l != 0) = true := by simpa using hc
    have He : Hid (standE l d = checkV l) := Lib.hid (by unfold standE; rw [if_neg hc])
    have HR : Hid (standR l d = []) := Lib.hid (by unfold standR; rw [He.out, if_neg hc])
    clear hc
    go_enter Tryz.func21, Tryz.ntmps21
    go_wp2_with (go_at_call 38; (with_reducible refine (HCk.out).mono ?_); rintro e w1 ⟨rfl, h1⟩)
    go_ret2
    exact ⟨_, by rw [He.out]; rfl, by rw [HR.out]; exact World.ownsRow_nil _ _ _ _, h1⟩

end Go.Proofs.YtkpaikampmeooaaGreatDoor

namespace Go.Proofs.YtkpaikampmeooaaGreatDoor
open Go.RowKit Go.Maps

structure FactWf (r : Rep) : Prop where
  id : 0 ≤ r.id ∧ r.id ≤ 999999
  acc : 0 ≤ r.acc ∧ r.acc ≤ 999999
  made : 0 ≤ r.made ∧ r.made ≤ 100000
  about : 0 ≤ r.about ∧ r.about ≤ 100000
  kind : 1 ≤ r.kind ∧ r.kind ≤ 7
structure FactsOk (l : List Rep) : Prop where
  wf : ∀ r ∈ l, FactWf r
  nodup : (l.map Rep.id).Nodup
  len : l.length ≤ 60
theorem standR_ok (l : List Rep) (d : Int) : FactsOk (standR l d) := by
  unfold standR
  split
  · rename_i hE
    have hc : checkV l = 0 := by
      unfold standE at hE
      split at hE
      · assumption
      · exact hE
    obtain ⟨h1, h2, _⟩ := checkV_zero.1 hc
    have hs := knownL_spec (d := d) l
    have hv : ∀ r ∈ knownL l d, validB r = true := fun r hr => h2 r (hs.2.1 r hr).1
    refine ⟨fun r hr => ?_, ?_, ?_⟩
    · have hr2 := (standL_perm _).mem_iff.1 hr
      unfold standS at hr2
      obtain ⟨s, hs2, rfl⟩ := List.mem_map.1 hr2
      obtain ⟨hs3, hs4⟩ := List.mem_filter.1 hs2
      obtain ⟨p1, p2, p3, p4, p5, p6⟩ := validB_parts (hv s hs3)
      have hk : s.kind ≤ 7 := by
        unfold factB at hs4
        simp only [Bool.and_eq_true, decide_eq_true_eq] at hs4
        exact hs4.1
      unfold standOf
      cases hcv : corV (knownL l d) s.id with
      | none => exact ⟨p1, p3, p4, p5, by show 1 ≤ s.kind; omega, hk⟩
      | some c =>
        obtain ⟨q1, _⟩ := corV_some hcv
        obtain ⟨_, _, _, _, q5, _⟩ := validB_parts (hv c q1)
        exact ⟨p1, p3, p4, q5, by show 1 ≤ s.kind; omega, hk⟩
    · exact ((standL_perm _).map Rep.id).nodup_iff.2 (standS_nodup hs.1)
    · rw [(standL_perm _).length_eq]
      unfold standS
      rw [List.length_map]
      exact Nat.le_trans (List.length_filter_le _ _) (Nat.le_trans (knownL_le l d) h1)
  · exact ⟨fun r hr => by simp at hr, by simp, by simp⟩

/-! The last day of a fact, and what is gone. -/
def lastT (laws : List LawT) (homes : List HomeT) (facts : List Rep) (id : Int) : Option Int := (atR facts id).bind fun r => lastV laws homes facts r
def lastN (laws : List LawT) (stills : List StillT) (homes : List HomeT) (l : List Rep) (id day : Int) : Int := if err4 laws stills homes l day = 0 then (lastT laws homes (standR l day) id).getD 0 else 0
def lastE (laws : List LawT) (stills : List StillT) (homes : List HomeT) (l : List Rep) (id day : Int) : Int := if err4 laws stills homes l day = 0 then (if (lastT laws homes (standR l day) id).isSome = true then 0 else 6) else err4 laws stills homes l day
def goneB (laws : List LawT) (homes : List HomeT) (facts : List Rep) (day : Int) (r : Rep) : Bool := decide (r.about ≤ day) && !shownB laws homes facts r day
def goneI (laws : List LawT) (homes : List HomeT) (facts l : List Rep) (day : Int) : List Int := (l.filter (goneB laws homes facts day)).map Rep.id
def goneL (laws : List LawT) (homes : List HomeT) (facts : List Rep) (day : Int) : List Int := (goneI laws homes facts facts day).mergeSort (fun a b => decide (a ≤ b))
def goneR (laws : List LawT) (stills : List StillT) (homes : List HomeT) (l : List Rep) (day : Int) : List Int := if err4 laws stills homes l day = 0 then goneL laws homes (standR l day) day else []
theorem sort_eq {l m : List Int} (hp : m.Perm l) (hs : m.Pairwise (· ≤ ·)) : m = l.mergeSort (fun a b => decide (a ≤ b)) := by
  have h1 : (l.mergeSort (fun a b => decide (a ≤ b))).Pairwise (· ≤ ·) := by
    have := List.pairwise_mergeSort (le := fun a b : Int => decide (a ≤ b)) (fun a b c h1 h2 => by simp only [decide_eq_true_eq] at *; omega) (fun a b => by simp only [Bool.or_eq_true, decide_eq_true_eq]; omega) l
    exact this.imp fun h => by simpa using h
  exact (hp.trans (List.mergeSort_perm l _).symm).eq_of_pairwise (fun a b _ _ h1 h2 => Int.le_antisymm h1 h2) hs h1
theorem goneI_snoc (laws : List LawT) (homes : List HomeT) (facts l : List Rep) (day : Int) (r : Rep) : goneI laws homes facts (l ++ [r]) day = goneI laws homes facts l day ++ (if goneB laws homes facts day r = true then [r.id] else []) := by
  unfold goneI
  rw [List.filter_append, List.map_append]
  cases h : goneB laws homes facts day r <;> simp [h]
theorem goneL_len (laws : List LawT) (homes : List HomeT) {facts : List Rep} (day : Int) (h : facts.length ≤ 60) : (goneL laws homes facts day).length ≤ 60 := by
  unfold goneL goneI
  rw [List.length_mergeSort, List.length_map]
  exact Nat.le_trans (List.length_filter_le _ _) h
theorem laws_keep {l : List LawT} (h : lawsB l = true) : ∀ x ∈ l, 0 ≤ x.keep ∧ x.keep ≤ 100000 := fun x hx => by
  unfold lawsB at h
  simp only [Bool.and_eq_true] at h
  have := List.all_eq_true.1 h.1.2 x hx
  unfold lawB1 at this
  simp only [Bool.and_eq_true, inN_iff] at this
  exact this.2
theorem err4_zero {laws : List LawT} {stills : List StillT} {homes : List HomeT} {l : List Rep} {day : Int} : err4 laws stills homes l day = 0 ↔ (lawsB laws = true ∧ stillsB stills = true ∧ homesB homes = true) ∧ checkV l = 0 ∧ inN day 0 100000 = true := by
  unfold err4 asked4
  constructor
  · intro h
    by_cases h1 : check4V laws stills homes = 0
    · rw [if_pos h1] at h
      by_cases h2 : checkV l = 0
      · rw [if_pos h2] at h
        by_cases h3 : inN day 0 100000 = true
        · obtain ⟨h4, h5⟩ := check4_zero.1 h1
          unfold codeB at h4
          rw [Bool.and_eq_true] at h4
          exact ⟨⟨h4.1, h4.2, h5⟩, h2, h3⟩
        · rw [if_neg h3] at h; omega
      · rw [if_neg h2] at h; exact absurd h h2
    · rw [if_neg h1, if_neg h1] at h; exact absurd h h1
  · rintro ⟨⟨h1, h2, h3⟩, h4, h5⟩
    have h6 : check4V laws stills homes = 0 := check4_zero.2 ⟨by unfold codeB; rw [h1, h2]; rfl, h3⟩
    rw [if_pos h6, if_pos h4, if_pos h5]
end Go.Proofs.YtkpaikampmeooaaGreatDoor

namespace Go.Proofs.YtkpaikampmeooaaGreatDoor
open Go.RowKit Go.Maps

/-- All blocks below B, but for m, are kept. -/
structure But (B m : Nat) (w w' : World) : Prop where
  os : w'.os = w.os
  tape : w'.tape = w.tape
  output : w'.output = w.output
  size : w.heap.size ≤ w'.heap.size
  block : ∀ k, k < B → k ≠ m → w'.heap[k]? = w.heap[k]?
theorem But.refl (B m : Nat) (w : World) : But B m w w := ⟨rfl, rfl, rfl, Nat.le_refl _, fun _ _ _ => rfl⟩
theorem But.trans {B m : Nat} {a b c : World} (h : But B m a b) (k : But B m b c) : But B m a c :=
  ⟨k.os.trans h.os, k.tape.trans h.tape, k.output.trans h.output, Nat.le_trans h.size k.size, fun i hi hm => (k.block i hi hm).trans (h.block i hi hm)⟩
theorem But.of_below {B B' m : Nat} {w w' : World} (h : Below B' w w') (hB : B ≤ B') : But B m w w' := ⟨h.os, h.tape, h.output, h.size, fun k hk _ => h.block k (Nat.lt_of_lt_of_le hk hB)⟩
theorem But.of_grown {B m : Nat} {w w' : World} (h : w.grownBy w' (some m)) (hB : B ≤ w.heap.size) : But B m w w' := ⟨h.os, h.tape, h.output, h.size, fun k hk hm => h.block k (by omega) (fun e => hm (Option.some.inj e))⟩
theorem But.below {B m n : Nat} {w w' : World} (h : But B m w w') (hB : n ≤ B) (hm : n ≤ m) : Below n w w' := ⟨h.os, h.tape, h.output, h.size, fun k hk => h.block k (by omega) (by omega)⟩
theorem But.blk {B m b : Nat} {w w' : World} {cs : Array Value} {t : TypeId} (h : But B m w w') (hk : Blk w b cs t) (hb : b < B) (hne : b ≠ m) : Blk w' b cs t := (h.block b hb hne).trans hk
theorem grown_below {w w' : World} (h : Below w.heap.size w w') : w.grownBy w' none := ⟨h.os, h.tape, h.output, h.size, fun k hk _ => h.block k hk⟩

/-! One is taken out of a map. -/
open Classical in
noncomputable def dropFn (G : Lit → Option Value) (kl : Lit) (x : Lit) : Option Value := if x = kl then none else G x
theorem MapFn.drop {P : Program} {k : TypeId} {w : World} {b n : Nat} {G : Lit → Option Value} {t e : TypeId} (h : MapFn w P k b n G) (K : Keyed P k) (ht : P.underlying t = some (.map k e)) {key : Value} {kl : Lit} (hkey : keyOf P k key = some kl) (ty : TypeId) :
    ∃ w', (Builtin.delete_ #[t, k] ty #[.map (some b), key]).run P w = .ok (.tuple #[]) w' ∧ MapFn w' P k b n (dropFn G kl) ∧ w.mapTurned w' b := by
  obtain ⟨D, h1, h2⟩ := h
  obtain ⟨w', hrun, h3, h4⟩ := h1.drop K ht hkey ty
  refine ⟨w', hrun, ⟨_, h3, fun x z => ?_⟩, h4⟩
  unfold dropFn
  by_cases hx : x = kl
  · subst hx; rw [if_pos rfl, atKey_del_same]; rfl
  · rw [if_neg hx, atKey_del_other hx]; exact h2 x z
section
variable {F : Fence} {nF : Nat} {P : Program} {w : World} {ops : Array Oper} {rest : List Oper} {o : Oper} {a : Act} {Q : Exit → Act → World → Prop}
theorem wpListIn_drop_fn (hg : o.guard = none) (m x : Operand) (t k : TypeId) (hop : o.op = Op.call { callee := Callee.builtin Builtin.delete, args := #[m, x], argTypes := #[t, k] })
    (e : TypeId) (K : Keyed P k) (ht : P.underlying t = some (.map k e)) (b n : Nat) (G : Lit → Option Value)
    (hm : a.eval m = .map (some b)) (hown : MapFn w P k b n G) (key : Value) (kl : Lit) (hx : a.eval x = key) (hkey : keyOf P k key = some kl)
    (hK : ∀ w', MapFn w' P k b n (dropFn G kl) → w.grownBy w' (some b) → wpListIn F nF P ops Q rest (a.put o.dst (.tuple #[])) w') :
    wpListIn F nF P ops Q (o :: rest) a w := by
  obtain ⟨D, h1, h2⟩ := hown
  refine wpListIn_delete_own w hg m x t k hop e K ht _ b n D hm h1 key kl hx hkey fun w' h3 h4 => hK w' ⟨_, h3, fun y z => ?_⟩ h4.grown
  unfold dropFn
  by_cases hx : y = kl
  · subst hx; rw [if_pos rfl, atKey_del_same]; rfl
  · rw [if_neg hx, atKey_del_other hx]; exact h2 y z
theorem wpListIn_put_fn (hg : o.guard = none) (m x v : Operand) (t : TypeId) (hop : o.op = Op.mapUpdate t m x v) (k e : TypeId) (K : Keyed P k) (ht : P.underlying t = some (.map k e))
    (b n : Nat) (G : Lit → Option Value) (hm : a.eval m = .map (some b)) (hown : MapFn w P k b n G) (hn : n < maxLen) (key val : Value) (kl : Lit) (hx : a.eval x = key) (hv : a.eval v = val) (hkey : keyOf P k key = some kl)
    (hK : ∀ w', MapFn w' P k b (n + 1) (putFn G kl val) → w.grownBy w' (some b) → wpListIn F nF P ops Q rest (a.put o.dst undef) w') : wpListIn F nF P ops Q (o :: rest) a w := by
  obtain ⟨D, h1, h2⟩ := hown
  refine wpListIn_mapUpdate_in w hg m x v t hop k e K ht _ b n D hm h1 hn key val kl hx hv hkey (.held val) [] rfl fun w' h3 h4 => hK w' ⟨_, h3, fun y z => ?_⟩ h4.grown
  unfold putFn
  by_cases hx : y = kl
  · subst hx; rw [if_pos rfl, atKey_put_same h1.isMap (K.key hkey)]; rfl
  · rw [if_neg hx, atKey_put_other hx]; exact h2 y z
end
theorem MapFn.grown {P : Program} {k : TypeId} {w w' : World} {b n : Nat} {G : Lit → Option Value} (h : MapFn w P k b n G) {row : Option Nat} (hg : w.grownBy w' row) (hne : row ≠ some b) : MapFn w' P k b n G := h.kept hg fun e => hne e.symm

open Classical in
/-- A set of numbers, in a map. -/
noncomputable def numG (L : List Int) : Lit → Option Value := intG fun x => if x ∈ L then some (.bool true) else none
theorem numG_nil : numG [] = fun _ => none := by
  unfold numG
  simp only [List.not_mem_nil, if_false]
  exact intG_nil
theorem numG_put (L : List Int) (x : Int) : putFn (numG L) (.int .i64 x) (.bool true) = numG (L ++ [x]) := by
  unfold numG
  rw [intG_put]
  refine intG_congr fun y => ?_
  by_cases h : y = x
  · subst h; simp
  · by_cases h2 : y ∈ L <;> simp [h, h2]
theorem numG_del (L : List Int) (x : Int) : dropFn (numG L) (.int .i64 x) = numG (L.filter fun y => decide (y ≠ x)) := by
  funext k
  unfold dropFn
  by_cases h : k = .int .i64 x
  · subst h
    rw [if_pos rfl, numG, intG_at, if_neg]
    simp
  · rw [if_neg h]
    unfold numG intG
    split
    · rename_i y
      have hy : y ≠ x := fun e => h (by rw [e])
      simp [hy]
    · rfl
theorem numG_get (L : List Int) (x : Int) : (numG L (.int .i64 x)).isSome = decide (x ∈ L) := by
  unfold numG
  rw [intG_at]
  by_cases h : x ∈ L <;> simp [h]

theorem intKeys_spec {H : Type} {P : Program} {k : TypeId} {R : Value → Option (DataW H × List MemPlace)} {w : World} {b n : Nat} {D : DataW H} (hown : w.ownsMap P k R b n D) (K : Keyed P k) (hk : P.underlying k = some (.int .i64)) :
    (Go.intKeys D).Nodup ∧ ∀ x, x ∈ Go.intKeys D ↔ has D (.int .i64 x) = true := by
  obtain ⟨es, hD, hpw, _⟩ := hown.entries K
  obtain ⟨es', hD', hko⟩ := hown.keysOf
  obtain rfl : es = es' := by rw [hD] at hD'; simpa using hD'
  subst hD
  have hx : ∀ p ∈ es, ∃ x, p.1 = .int .i64 x := fun p hp => by
    obtain ⟨v, hv⟩ := hko p hp
    obtain ⟨x, _, hx, _⟩ := Go.Maps.keyOf_i64 hk hv
    exact ⟨x, hx⟩
  refine ⟨?_, fun x => ?_⟩
  · refine List.pairwise_map.2 (hpw.imp_of_mem fun {p q} hp' hq' hne e => hne ?_)
    obtain ⟨a, ha⟩ := hx p hp'
    obtain ⟨c, hc⟩ := hx q hq'
    rw [ha, hc] at e ⊢
    exact congrArg _ e
  · rw [has_eq, List.any_eq_true]
    show x ∈ es.map (fun p => Go.intOf p.1) ↔ _
    rw [List.mem_map]
    constructor
    · rintro ⟨p, hp', rfl⟩
      obtain ⟨a, ha⟩ := hx p hp'
      exact ⟨p, hp', by rw [ha]; simp [Lit.sameKey, Go.intOf]⟩
    · rintro ⟨p, hp', hs⟩
      obtain ⟨a, ha⟩ := hx p hp'
      rw [ha] at hs
      exact ⟨p, hp', by rw [ha]; simpa [Lit.sameKey, Go.intOf] using hs⟩

/-! What is shown, with its last day. -/
def shownO (laws : List LawT) (homes : List HomeT) (facts : List Rep) (day : Int) (r : Rep) : Option (Rep × Int) := match lastV laws homes facts r with
  | none => none
  | some n => if r.about ≤ day ∧ day ≤ n then some (r, n) else none
def shownS (laws : List LawT) (homes : List HomeT) (facts : List Rep) (day : Int) (l : List Rep) : List (Rep × Int) := l.filterMap (shownO laws homes facts day)
theorem shownS_snoc (laws : List LawT) (homes : List HomeT) (facts : List Rep) (day : Int) (l : List Rep) (r : Rep) : shownS laws homes facts day (l ++ [r]) = shownS laws homes facts day l ++ (match shownO laws homes facts day r with | none => [] | some p => [p]) := by
  unfold shownS
  rw [List.filterMap_append]
  cases h : shownO laws homes facts day r <;> simp [h]
theorem shownO_id {laws : List LawT} {homes : List HomeT} {facts : List Rep} {day : Int} {r : Rep} {p : Rep × Int} (h : shownO laws homes facts day r = some p) : p.1 = r := by
  unfold shownO at h
  split at h
  · cases h
  · split at h
    · cases h; rfl
    · cases h
theorem shownO_some (laws : List LawT) (homes : List HomeT) (facts : List Rep) (day : Int) (r : Rep) : (shownO laws homes facts day r).isSome = shownB laws homes facts r day := by
  unfold shownO shownB
  cases h : lastV laws homes facts r with
  | none => rfl
  | some n =>
    show (if r.about ≤ day ∧ day ≤ n then some (r, n) else none).isSome = (decide (r.about ≤ day) && decide (day ≤ n))
    by_cases h1 : r.about ≤ day <;> by_cases h2 : day ≤ n <;> simp [h1, h2]
theorem shownS_ids {laws : List LawT} {homes : List HomeT} {facts : List Rep} (day : Int) (hn : (facts.map Rep.id).Nodup) {r : Rep} (hr : r ∈ facts) : r.id ∈ (shownS laws homes facts day facts).map (fun p => p.1.id) ↔ shownB laws homes facts r day = true := by
  rw [List.mem_map, ← shownO_some]
  constructor
  · rintro ⟨p, hp, he⟩
    obtain ⟨s, hs, hsp⟩ := List.mem_filterMap.1 hp
    have h1 := shownO_id hsp
    rw [h1] at he
    have := id_eq hn hs hr he
    rw [← this, hsp]; rfl
  · intro h
    obtain ⟨p, hp⟩ := Option.isSome_iff_exists.1 h
    exact ⟨p, List.mem_filterMap.2 ⟨r, hr, hp⟩, by rw [shownO_id hp]⟩
/-- The facts that a map holds at first, and what is left of it. -/
def aboutI (facts : List Rep) (day : Int) : List Int := (facts.filter fun r => decide (r.about ≤ day)).map Rep.id
theorem aboutI_snoc (l : List Rep) (day : Int) (r : Rep) : aboutI (l ++ [r]) day = aboutI l day ++ (if r.about ≤ day then [r.id] else []) := by
  unfold aboutI
  rw [List.filter_append, List.map_append]
  by_cases h : r.about ≤ day <;> simp [h]
def leftI (L : List Int) (ps : List (Rep × Int)) : List Int := L.filter fun x => decide (x ∉ ps.map fun p => p.1.id)
theorem leftI_nil (L : List Int) : leftI L [] = L := by unfold leftI; exact List.filter_eq_self.2 fun x _ => by simp
theorem leftI_snoc (L : List Int) (ps : List (Rep × Int)) (p : Rep × Int) : (leftI L ps).filter (fun y => decide (y ≠ p.1.id)) = leftI L (ps ++ [p]) := by
  unfold leftI
  rw [List.filter_filter]
  congr 1
  funext y
  by_cases h : y = p.1.id <;> simp [h]
theorem left_gone {laws : List LawT} {homes : List HomeT} {facts : List Rep} (day : Int) (hn : (facts.map Rep.id).Nodup) : leftI (aboutI facts day) (shownS laws homes facts day facts) = goneI laws homes facts facts day := by
  unfold leftI aboutI goneI
  rw [List.filter_map, List.filter_filter]
  refine congrArg (List.map Rep.id) (List.filter_congr fun r hr => ?_)
  have := shownS_ids (laws := laws) (homes := homes) day hn hr
  unfold goneB
  by_cases h : shownB laws homes facts r day = true
  · have h2 := decide_eq_false (p := r.id ∉ (shownS laws homes facts day facts).map fun p => p.1.id) (fun e => e (this.2 h))
    simp only [Function.comp_apply, h, Bool.not_true, Bool.and_false, h2, Bool.false_and]
  · have h2 := decide_eq_true (p := r.id ∉ (shownS laws homes facts day facts).map fun p => p.1.id) (fun e => h (this.1 e))
    simp only [Bool.not_eq_true] at h
    simp only [Function.comp_apply, h, Bool.not_false, Bool.and_true, h2, Bool.true_and]
theorem left_nodup {facts : List Rep} (day : Int) (hn : (facts.map Rep.id).Nodup) (ps : List (Rep × Int)) : (leftI (aboutI facts day) ps).Nodup := by
  unfold leftI aboutI
  exact (hn.sublist ((List.filter_sublist).map _)).sublist List.filter_sublist
theorem keys_perm {w : World} {b n : Nat} {L : List Int} {D : DataW Value} (hown : w.ownsMap Tryz.prog 3 rawElem b n D) (hat : ∀ kl z, D.atKey kl z = gotAt (numG L kl) z) (hL : L.Nodup) {ss : List Int} (hp : ss.Perm (Go.intKeys D)) : ss.Perm L := by
  obtain ⟨h1, h2⟩ := intKeys_spec hown (int_keyed Tryz.underlying3) Tryz.underlying3
  refine hp.trans ((List.perm_ext_iff_of_nodup h1 hL).2 fun x => ?_)
  rw [h2, has_some hat, numG_get]
  simp
end Go.Proofs.YtkpaikampmeooaaGreatDoor
