/- Lists of laws, of what silence means, and of homes, in memory. -/
import Derived.Test.YtkpaikampmeooaaGreatDoorTCardP2
import Derived.Test.YtkpaikampmeooaaGreatDoorTCardP1
import Derived.DeepKeys4
import Derived.OpenShut

namespace Go.Proofs.YtkpaikampmeooaaGreatDoor
open Go.RowKit Go.Maps

section
variable {α : Type}
/-- The slice at A holds l, n cells each, below block B. -/
def Flat (n : Nat) (f : α → List Value) (w : World) (B : Nat) (A : Option Addr) (l : List α) : Prop :=
  ∀ k, (h : k < l.length) → ∃ b off, A = some ⟨b, off, none⟩ ∧ b < B ∧ ∀ i, i < n → w.cell? ⟨b, off + k * n + i, none⟩ = (f l[k])[i]?
variable {n : Nat} {f : α → List Value} {w w' : World} {B B' : Nat} {A : Option Addr} {l : List α}
theorem Flat.below (h : Flat n f w B A l) (hb : Below B w w') : Flat n f w' B A l := fun k hk => by
  obtain ⟨b, off, e, h1, h2⟩ := h k hk
  exact ⟨b, off, e, h1, fun i hi => (hb.cell (p := ⟨b, off + k * n + i, none⟩) h1).trans (h2 i hi)⟩
theorem Flat.more (h : Flat n f w B A l) (hB : B ≤ B') : Flat n f w B' A l := fun k hk => by
  obtain ⟨b, off, e, h1, h2⟩ := h k hk
  exact ⟨b, off, e, by omega, h2⟩
theorem Flat.later (h : Flat n f w w.heap.size A l) (hb : Below w.heap.size w w') : Flat n f w' w'.heap.size A l := (h.below hb).more hb.size
theorem Flat.none_ (h : Flat n f w B none l) : l.length = 0 := by
  rcases Nat.eq_zero_or_pos l.length with e | e
  · exact e
  · obtain ⟨_, _, he, _⟩ := h 0 e; cases he
theorem flat_get {f : α → List Value} {n : Nat} (hn : ∀ x, (f x).length = n) : ∀ (l : List α) (k : Nat) (h : k < l.length) (i : Nat), i < n → (l.flatMap f)[k * n + i]? = (f l[k])[i]?
  | x :: l, 0, _, i, hi => by
    rw [show (x :: l).flatMap f = f x ++ l.flatMap f from rfl, Nat.zero_mul, Nat.zero_add, List.getElem?_append_left (by rw [hn]; exact hi)]
    rfl
  | x :: l, k + 1, h, i, hi => by
    have e : (k + 1) * n + i - (f x).length = k * n + i := by rw [hn, Nat.succ_mul]; omega
    rw [show (x :: l).flatMap f = f x ++ l.flatMap f from rfl, List.getElem?_append_right (by rw [hn, Nat.succ_mul]; omega), e]
    exact flat_get hn l k (by simpa using h) i hi
theorem flat_len {f : α → List Value} {n : Nat} (hn : ∀ x, (f x).length = n) : ∀ l : List α, (l.flatMap f).length = l.length * n
  | [] => by simp
  | x :: l => by
    rw [show (x :: l).flatMap f = f x ++ l.flatMap f from rfl, List.length_append, flat_len hn l, List.length_cons, hn, Nat.succ_mul]; omega
theorem flat_ones {f : α → List Value} (h1 : ∀ x, ∀ u ∈ f x, u.oneCell' = true) (l : List α) : ∀ u ∈ l.flatMap f, u.oneCell' = true := fun u hu => by
  obtain ⟨x, _, hu⟩ := List.mem_flatMap.1 hu
  exact h1 x u hu
theorem Flat.news (hn : ∀ x, (f x).length = n) (h0 : 0 < n) (h : Flat n f w B A l) : ∀ ad, A = some ad → ∀ j u, (l.flatMap f)[j]? = some u → w.cell? (ad.add j) = some u := fun ad e j u hj => by
  obtain ⟨q, i, hi, rfl⟩ : ∃ q i, i < n ∧ j = q * n + i := ⟨j / n, j % n, Nat.mod_lt _ h0, by rw [Nat.mul_comm]; exact (Nat.div_add_mod j n).symm⟩
  have hq : q < l.length := by
    have h3 := (List.getElem?_eq_some_iff.1 hj).1
    rw [flat_len hn] at h3
    rcases Nat.lt_or_ge q l.length with h4 | h4
    · exact h4
    · have := Nat.mul_le_mul_right n h4; omega
  obtain ⟨b, off, he, _, hc⟩ := h q hq
  rw [e] at he; cases he
  rw [WideShapes.add_plain, ← Nat.add_assoc, hc i hi]
  rw [flat_get hn l q hq i hi] at hj
  exact hj
theorem Flat.of_own (hn : ∀ x, (f x).length = n) (_h0 : 0 < n) {W : World} {base : Nat} {A : Option Addr} {c : Nat} {t : TypeId} (h : W.ownsRow base t n (.slice A l.length c) l.length (l.flatMap f)) : Flat n f W W.heap.size A l := fun k hk => by
  obtain ⟨g, cap, hv, hb, hlt⟩ := h.form (by omega)
  simp only [Value.slice.injEq, true_and] at hv
  obtain ⟨rfl, rfl⟩ := hv
  refine ⟨g, 0, rfl, hlt, fun i hi => ?_⟩
  have hm : k * n + i < l.length * n := by
    have := Nat.mul_le_mul_right n (show k + 1 ≤ l.length from hk)
    rw [Nat.succ_mul] at this; omega
  rw [Nat.zero_add, h.cellAt (k * n + i) hm, flat_get hn l k hk i hi]
end

def lawC (x : LawT) : List Value := [.int .i64 x.land, .int .u8 x.kind, .int .u8 x.base, .int .i64 x.keep]
def stillC (x : StillT) : List Value := [.int .i64 x.land, .int .i64 x.days, .int .u8 x.means]
def homeC (x : HomeT) : List Value := [.int .i64 x.acc, .int .i64 x.land]
theorem lawC_len (x : LawT) : (lawC x).length = 4 := rfl
theorem stillC_len (x : StillT) : (stillC x).length = 3 := rfl
theorem homeC_len (x : HomeT) : (homeC x).length = 2 := rfl
theorem lawC_one (x : LawT) : ∀ u ∈ lawC x, u.oneCell' = true := fun u hu => by
  simp only [lawC, List.mem_cons, List.not_mem_nil, or_false] at hu
  rcases hu with rfl | rfl | rfl | rfl <;> rfl
theorem stillC_one (x : StillT) : ∀ u ∈ stillC x, u.oneCell' = true := fun u hu => by
  simp only [stillC, List.mem_cons, List.not_mem_nil, or_false] at hu
  rcases hu with rfl | rfl | rfl <;> rfl
theorem homeC_one (x : HomeT) : ∀ u ∈ homeC x, u.oneCell' = true := fun u hu => by
  simp only [homeC, List.mem_cons, List.not_mem_nil, or_false] at hu
  rcases hu with rfl | rfl <;> rfl
abbrev Laws (w : World) (B : Nat) (A : Option Addr) (l : List LawT) : Prop := Flat 4 lawC w B A l
abbrev Stills (w : World) (B : Nat) (A : Option Addr) (l : List StillT) : Prop := Flat 3 stillC w B A l
abbrev HomesAt (w : World) (B : Nat) (A : Option Addr) (l : List HomeT) : Prop := Flat 2 homeC w B A l
structure Law4 (w : World) (b o : Nat) (x : LawT) : Prop where
  c0 : w.cell? ⟨b, o, none⟩ = some (.int .i64 x.land)
  c1 : w.cell? ⟨b, o + 1, none⟩ = some (.int .u8 x.kind)
  c2 : w.cell? ⟨b, o + 2, none⟩ = some (.int .u8 x.base)
  c3 : w.cell? ⟨b, o + 3, none⟩ = some (.int .i64 x.keep)
structure Still3 (w : World) (b o : Nat) (x : StillT) : Prop where
  c0 : w.cell? ⟨b, o, none⟩ = some (.int .i64 x.land)
  c1 : w.cell? ⟨b, o + 1, none⟩ = some (.int .i64 x.days)
  c2 : w.cell? ⟨b, o + 2, none⟩ = some (.int .u8 x.means)
structure Home2 (w : World) (b o : Nat) (x : HomeT) : Prop where
  c0 : w.cell? ⟨b, o, none⟩ = some (.int .i64 x.acc)
  c1 : w.cell? ⟨b, o + 1, none⟩ = some (.int .i64 x.land)
theorem laws_at {w : World} {B : Nat} {A : Option Addr} {l : List LawT} (h : Laws w B A l) {k : Nat} (hk : k < l.length) : ∃ b off, A = some ⟨b, off, none⟩ ∧ b < B ∧ Law4 w b (off + k * 4) l[k] := by
  obtain ⟨b, off, e, h1, h2⟩ := h k hk
  exact ⟨b, off, e, h1, ⟨h2 0 (by omega), h2 1 (by omega), h2 2 (by omega), h2 3 (by omega)⟩⟩
theorem stills_at {w : World} {B : Nat} {A : Option Addr} {l : List StillT} (h : Stills w B A l) {k : Nat} (hk : k < l.length) : ∃ b off, A = some ⟨b, off, none⟩ ∧ b < B ∧ Still3 w b (off + k * 3) l[k] := by
  obtain ⟨b, off, e, h1, h2⟩ := h k hk
  exact ⟨b, off, e, h1, ⟨h2 0 (by omega), h2 1 (by omega), h2 2 (by omega)⟩⟩
theorem homes_at {w : World} {B : Nat} {A : Option Addr} {l : List HomeT} (h : HomesAt w B A l) {k : Nat} (hk : k < l.length) : ∃ b off, A = some ⟨b, off, none⟩ ∧ b < B ∧ Home2 w b (off + k * 2) l[k] := by
  obtain ⟨b, off, e, h1, h2⟩ := h k hk
  exact ⟨b, off, e, h1, ⟨h2 0 (by omega), h2 1 (by omega)⟩⟩
/-- What numbers may be among the arguments. -/
def LawWf (x : LawT) : Prop := (Lit.int .i64 x.land).wf = true ∧ (0 ≤ x.kind ∧ x.kind ≤ 255) ∧ 0 ≤ x.base ∧ x.base ≤ 255
def StillWf (x : StillT) : Prop := 0 ≤ x.means ∧ x.means ≤ 255
def HomeWf (x : HomeT) : Prop := (Lit.int .i64 x.acc).wf = true
end Go.Proofs.YtkpaikampmeooaaGreatDoor

namespace Go.Proofs.YtkpaikampmeooaaGreatDoor
open Go.RowKit Go.Maps

/-! Homes. -/
open Classical in
noncomputable def landG (l : List HomeT) : Lit → Option Value := fun x => (l.find? fun h => decide (x = .int .i64 h.acc)).map fun h => .int .i64 h.land
theorem landG_nil : landG [] = fun _ => none := rfl
open Classical in
theorem landG_snoc (l : List HomeT) (h : HomeT) (hn : ∀ x ∈ l, x.acc ≠ h.acc) : putFn (landG l) (.int .i64 h.acc) (.int .i64 h.land) = landG (l ++ [h]) := by
  funext k
  unfold putFn landG
  rw [List.find?_append]
  by_cases e : k = .int .i64 h.acc
  · rw [if_pos e]
    have : (l.find? fun y => decide (k = .int .i64 y.acc)) = none := by
      rw [List.find?_eq_none]
      intro y hy e2
      simp only [decide_eq_true_eq] at e2
      rw [e] at e2
      injection e2 with _ e3
      exact hn y hy e3.symm
    rw [this]; simp [e]
  · rw [if_neg e]
    have : ([h].find? fun y => decide (k = .int .i64 y.acc)) = none := by simp [e]
    rw [this, Option.or_none]
open Classical in
theorem landG_at (l : List HomeT) (acc : Int) : landG l (.int .i64 acc) = (landV l acc).map (.int .i64) := by
  unfold landG landV
  rw [Option.map_map]
  have : (fun h : HomeT => decide ((Lit.int .i64 acc) = .int .i64 h.acc)) = fun h => decide (h.acc = acc) := by
    funext h
    rw [Bool.eq_iff_iff]
    simp only [decide_eq_true_eq]
    exact ⟨fun e => by injection e with _ e; exact e.symm, fun e => by rw [e]⟩
  rw [this]; rfl

/-! Laws, by land and kind. -/
theorem Tryz.laidOut : laidOutB Tryz.prog = true := by kernel_rfl
theorem scopeWide : (match Tryz.prog.underlying 89 with | some (.array _ _) | some (.struct _) => true | _ => false) = true := by rw [Tryz.underlying89]
theorem scopeRowIn : (89 : TypeId) < Tryz.prog.types.size := of_decide_eq_true (by kernel_rfl)
theorem scopeTyped : Tryz.prog.keyTypeAt 2 89 = true := by kernel_rfl
theorem scopeLe : 2 + 1 ≤ 10000 := Nat.le_of_ble_eq_true rfl
set_option maxRecDepth 100000 in
theorem scopeKeyed : Keyed Tryz.prog 89 := Keyed.of_law (deep_law_laid Tryz.laidOut (m := 2) scopeLe scopeRowIn scopeTyped scopeWide)
def ScopeWf (p : Int × Int) : Prop := (Lit.int .i64 p.1).wf = true ∧ (Lit.int .u8 p.2).wf = true
noncomputable def scopeL (p : Int × Int) : Lit := .string (keyBytes [.int .i64 p.1, .int .u8 p.2])
theorem scopeKey {p : Int × Int} (h : ScopeWf p) : keyOf Tryz.prog 89 (.agg #[.int .i64 p.1, .int .u8 p.2]) = some (scopeL p) := by
  have hc2 : Tryz.prog.cellsOf 89 = 2 := by kernel_rfl
  have hc1 : Tryz.prog.cellsOf 3 = 1 := by kernel_rfl
  have hc5 : Tryz.prog.cellsOf 5 = 1 := by kernel_rfl
  obtain ⟨m, hm⟩ : ∃ m, Tryz.prog.types.size = m + 1 := Nat.exists_eq_succ_of_ne_zero (Nat.ne_of_gt (Nat.lt_of_le_of_lt (Nat.zero_le _) scopeRowIn))
  have h1 : ∀ n, (Lit.int .i64 n).wf = true → Tryz.prog.keyLits (m + 1) 3 [.int .i64 n] = some [.int .i64 n] := fun n hn => by
    unfold Program.keyLits; rw [Tryz.underlying3]; simp [hn]
  have h5 : ∀ n, (Lit.int .u8 n).wf = true → Tryz.prog.keyLits (m + 1) 5 [.int .u8 n] = some [.int .u8 n] := fun n hn => by
    unfold Program.keyLits; rw [Tryz.underlying5]; simp [hn]
  have h2 : Tryz.prog.keyType 89 = true := by kernel_rfl
  have h3 : (Value.agg #[.int .i64 p.1, .int .u8 p.2]).formed Tryz.prog 89 = true := by simp [Value.formed, Tryz.underlying89, hc2]
  unfold keyOf
  rw [Tryz.underlying89]
  simp only [h2, h3, Bool.and_self, if_true]
  rw [hm]
  unfold Program.keyLits
  rw [Tryz.underlying89]
  simp [Value.cells, hc2, hc1, hc5, h1 p.1 h.1, h5 p.2 h.2, scopeL]
theorem scopeL_inj {p q : Int × Int} (hp : ScopeWf p) (hq : ScopeWf q) (e : scopeL p = scopeL q) : p = q := by
  have h := scopeKeyed.inj (scopeKey hp) (e ▸ scopeKey hq)
  simp only [Value.agg.injEq, Array.mk.injEq, List.cons.injEq, Value.int.injEq, true_and, and_true] at h
  exact Prod.ext h.1 h.2
def scopeOf (x : LawT) : Int × Int := (x.land, x.kind)
open Classical in
noncomputable def lawG (l : List LawT) : Lit → Option Value := fun k => (l.find? fun x => decide (k = scopeL (scopeOf x))).map fun x => .agg #[.int .i64 x.land, .int .u8 x.kind, .int .u8 x.base, .int .i64 x.keep]
theorem lawG_nil : lawG [] = fun _ => none := rfl
open Classical in
theorem lawG_snoc (l : List LawT) (x : LawT) (hx : ScopeWf (scopeOf x)) (hl : ∀ y ∈ l, ScopeWf (scopeOf y)) (hn : ∀ y ∈ l, scopeOf y ≠ scopeOf x) : putFn (lawG l) (scopeL (x.land, x.kind)) (.agg #[.int .i64 x.land, .int .u8 x.kind, .int .u8 x.base, .int .i64 x.keep]) = lawG (l ++ [x]) := by
  funext k
  unfold putFn lawG
  rw [List.find?_append]
  by_cases e : k = scopeL (x.land, x.kind)
  · rw [if_pos e]
    have : (l.find? fun y => decide (k = scopeL (scopeOf y))) = none := by
      rw [List.find?_eq_none]
      intro y hy e2
      simp only [decide_eq_true_eq] at e2
      exact hn y hy (scopeL_inj hx (hl y hy) (e.symm.trans e2)).symm
    rw [this]; simp [e, scopeOf]
  · rw [if_neg e]
    have : ([x].find? fun y => decide (k = scopeL (scopeOf y))) = none := by
      rw [List.find?_eq_none]
      intro y hy e2
      simp only [List.mem_cons, List.not_mem_nil, or_false] at hy
      subst hy
      simp only [decide_eq_true_eq] at e2
      exact e e2
    rw [this, Option.or_none]
open Classical in
theorem lawG_at (l : List LawT) (land kind : Int) (hp : ScopeWf (land, kind)) (hl : ∀ y ∈ l, ScopeWf (scopeOf y)) : lawG l (scopeL (land, kind)) = (lawOf l land kind).map fun x => .agg #[.int .i64 x.land, .int .u8 x.kind, .int .u8 x.base, .int .i64 x.keep] := by
  unfold lawG lawOf
  congr 1
  induction l with
  | nil => rfl
  | cons y t ih =>
    rw [List.find?_cons, List.find?_cons, ih fun z hz => hl z (List.mem_cons_of_mem _ hz)]
    have : decide (scopeL (land, kind) = scopeL (scopeOf y)) = decide (y.land = land ∧ y.kind = kind) := by
      rw [Bool.eq_iff_iff]
      simp only [decide_eq_true_eq]
      constructor
      · intro e
        have := scopeL_inj hp (hl y List.mem_cons_self) e
        simp only [scopeOf, Prod.mk.injEq] at this
        exact ⟨this.1.symm, this.2.symm⟩
      · rintro ⟨rfl, rfl⟩; rfl
    rw [this]

/-! Days. -/
def closingsL (facts : List Rep) (acc : Int) : List Int := (facts.filter fun r => decide (r.kind = 7 ∧ r.acc = acc)).map Rep.about
def leastL (l : List Int) : Int := l.foldl (fun a b => if b < a then b else a) 300000
theorem close_both (acc : Int) : ∀ (facts : List Rep) (b m : Int), (∀ r ∈ facts, 0 ≤ r.about ∧ r.about ≤ 100000) → (b < 0 ∧ m = 300000 ∨ 0 ≤ b ∧ m = b ∧ b ≤ 100000) →
    let b' := facts.foldl (closeStep acc) b
    let m' := (closingsL facts acc).foldl (fun a b => if b < a then b else a) m
    (b' < 0 ∧ m' = 300000 ∨ 0 ≤ b' ∧ m' = b' ∧ b' ≤ 100000)
  | [], b, m, _, h => h
  | r :: t, b, m, hf, h => by
    have h1 := hf r List.mem_cons_self
    have ht : ∀ x ∈ t, 0 ≤ x.about ∧ x.about ≤ 100000 := fun x hx => hf x (List.mem_cons_of_mem _ hx)
    by_cases hk : r.kind = 7 ∧ r.acc = acc
    · have e : closingsL (r :: t) acc = r.about :: closingsL t acc := by unfold closingsL; rw [List.filter_cons_of_pos (by simpa using hk)]; rfl
      intro b' m'
      have e2 : m' = (closingsL t acc).foldl (fun a b => if b < a then b else a) (if r.about < m then r.about else m) := by show (closingsL (r :: t) acc).foldl _ _ = _; rw [e]; rfl
      have e3 : b' = t.foldl (closeStep acc) (closeStep acc b r) := rfl
      rw [e2, e3]
      refine close_both acc t _ _ ht ?_
      unfold closeStep
      by_cases h2 : r.acc = acc ∧ r.kind = 7 ∧ (b < 0 ∨ r.about < b)
      · rw [if_pos h2]; right; rcases h with ⟨h3, rfl⟩ | ⟨h3, rfl, h4⟩
        · rw [if_pos (by omega)]; omega
        · rw [if_pos (by omega)]; omega
      · rw [if_neg h2]
        rcases h with ⟨h3, rfl⟩ | ⟨h3, rfl, h4⟩
        · exact absurd ⟨hk.2, hk.1, .inl h3⟩ h2
        · right; rw [if_neg (by omega)]; omega
    · have e : closingsL (r :: t) acc = closingsL t acc := by unfold closingsL; rw [List.filter_cons_of_neg (by simpa using hk)]
      intro b' m'
      have e2 : m' = (closingsL t acc).foldl (fun a b => if b < a then b else a) m := by show (closingsL (r :: t) acc).foldl _ _ = _; rw [e]
      have e3 : b' = t.foldl (closeStep acc) (closeStep acc b r) := rfl
      rw [e2, e3]
      refine close_both acc t _ _ ht ?_
      unfold closeStep
      rw [if_neg (fun e => hk ⟨e.2.1, e.1⟩)]
      exact h
theorem least_closings {facts : List Rep} (acc : Int) (hf : ∀ r ∈ facts, 0 ≤ r.about ∧ r.about ≤ 100000) : leastL (closingsL facts acc) = if closeR facts acc < 0 then 300000 else closeR facts acc := by
  have h := close_both acc facts (-1) 300000 hf (.inl ⟨by omega, rfl⟩)
  unfold leastL closeR
  rcases h with ⟨h1, h2⟩ | ⟨h1, h2, _⟩
  · rw [if_pos h1]; exact h2
  · rw [if_neg (by omega)]; exact h2
/-- The day from which on a fact is kept. -/
def startP (facts : List Rep) (base : Int) (r : Rep) : Int := if base = 1 then r.about else if base = 2 then r.made else leastL (closingsL facts r.acc)
theorem last_least {facts : List Rep} {x : LawT} {r : Rep} (hf : ∀ r ∈ facts, (0 ≤ r.about ∧ r.about ≤ 100000) ∧ 0 ≤ r.made ∧ r.made ≤ 100000) (hr : r ∈ facts) (hk : 0 ≤ x.keep ∧ x.keep ≤ 100000) : leastL [startP facts x.base r + x.keep] = lastBy x facts r := by
  have h1 := hf r hr
  have h2 := least_closings (facts := facts) r.acc fun r hr => (hf r hr).1
  have h3 := close_both r.acc facts (-1) 300000 (fun r hr => (hf r hr).1) (.inl ⟨by omega, rfl⟩)
  simp only at h3
  unfold leastL startP lastBy
  simp only [List.foldl_cons, List.foldl_nil]
  by_cases hb1 : x.base = 1
  · rw [if_pos hb1, if_pos hb1, if_pos (by omega)]
  · rw [if_neg hb1, if_neg hb1]
    by_cases hb2 : x.base = 2
    · rw [if_pos hb2, if_pos hb2, if_pos (by omega)]
    · rw [if_neg hb2, if_neg hb2, h2]
      by_cases hc : closeR facts r.acc < 0
      · rw [if_pos hc, if_pos hc, if_neg (by omega)]
      · rw [if_neg hc, if_neg hc]
        unfold closeR at *
        rw [if_pos (by omega)]
end Go.Proofs.YtkpaikampmeooaaGreatDoor

namespace Go.Proofs.YtkpaikampmeooaaGreatDoor
open Go.RowKit

/-- The key of the report at a place. -/
def keyAt (l : List Rep) (a : Nat) : Int := keyR (l.getD a default)
theorem keyAt_get (l : List Rep) (a : Nat) (h : a < l.length) : keyAt l a = keyR l[a] := by
  unfold keyAt; rw [List.getD_eq_getElem?_getD, List.getElem?_eq_getElem h]; rfl
theorem repCells_set (l : List Rep) (k : Nat) (hk : k < l.length) (x : Rep) :
    (l.set k x).flatMap repCells = ((((((((l.flatMap repCells).set (k * 8) (.int .i64 x.id)).set (k * 8 + 1) (.int .i64 x.src)).set (k * 8 + 2) (.int .i64 x.acc)).set (k * 8 + 3) (.int .i64 x.made)).set (k * 8 + 4) (.int .i64 x.about)).set (k * 8 + 5) (.int .u8 x.kind)).set (k * 8 + 6) (.int .i64 x.cents)).set (k * 8 + 7) (.int .i64 x.of_) := by
  apply List.ext_getElem?
  intro q
  have hL := repCells_len l
  by_cases hq : q < l.length * 8
  · have hq2 : q = q / 8 * 8 + q % 8 := by omega
    have hm : q % 8 < 8 := Nat.mod_lt _ (by omega)
    have hd : q / 8 < l.length := by omega
    have h1 := repCells_get (l.set k x) (q / 8) (by simpa using hd) (q % 8) hm
    rw [← hq2, List.getElem_set] at h1
    rw [h1]
    have h2 := repCells_get l (q / 8) hd (q % 8) hm
    rw [← hq2] at h2
    simp only [List.getElem?_set, List.length_set, hL]
    by_cases hk2 : k = q / 8
    · rw [if_pos hk2]
      subst hk2
      have h8 : q % 8 = 0 ∨ q % 8 = 1 ∨ q % 8 = 2 ∨ q % 8 = 3 ∨ q % 8 = 4 ∨ q % 8 = 5 ∨ q % 8 = 6 ∨ q % 8 = 7 := by omega
      rcases h8 with h8 | h8 | h8 | h8 | h8 | h8 | h8 | h8
      · rw [h8, if_neg (by omega), if_neg (by omega), if_neg (by omega), if_neg (by omega), if_neg (by omega), if_neg (by omega), if_neg (by omega), if_pos (by omega), if_pos (by omega)]; rfl
      · rw [h8, if_neg (by omega), if_neg (by omega), if_neg (by omega), if_neg (by omega), if_neg (by omega), if_neg (by omega), if_pos (by omega), if_pos (by omega)]; rfl
      · rw [h8, if_neg (by omega), if_neg (by omega), if_neg (by omega), if_neg (by omega), if_neg (by omega), if_pos (by omega), if_pos (by omega)]; rfl
      · rw [h8, if_neg (by omega), if_neg (by omega), if_neg (by omega), if_neg (by omega), if_pos (by omega), if_pos (by omega)]; rfl
      · rw [h8, if_neg (by omega), if_neg (by omega), if_neg (by omega), if_pos (by omega), if_pos (by omega)]; rfl
      · rw [h8, if_neg (by omega), if_neg (by omega), if_pos (by omega), if_pos (by omega)]; rfl
      · rw [h8, if_neg (by omega), if_pos (by omega), if_pos (by omega)]; rfl
      · rw [h8, if_pos (by omega), if_pos (by omega)]; rfl
    · rw [if_neg hk2, ← h2, if_neg (by omega), if_neg (by omega), if_neg (by omega), if_neg (by omega), if_neg (by omega), if_neg (by omega), if_neg (by omega), if_neg (by omega)]
  · rw [List.getElem?_eq_none (by rw [repCells_len, List.length_set]; omega), List.getElem?_eq_none (by simp only [List.length_set]; omega)]

/-- All pairs up to i are in order, but for those whose later one is k. -/
def InsInv (f : Nat → Int) (i k : Nat) : Prop := ∀ a b, a < b → b ≤ i → b ≠ k → f a ≤ f b
def swp (f : Nat → Int) (k : Nat) (a : Nat) : Int := if a = k then f (k - 1) else if a = k - 1 then f k else f a
theorem ins_start {f : Nat → Int} {i : Nat} (h : ∀ a b, a < b → b < i → f a ≤ f b) : InsInv f i i := fun a b h1 h2 h3 => h a b h1 (by omega)
theorem ins_step {f : Nat → Int} {i k : Nat} (hk : 0 < k) (hlt : f k < f (k - 1)) (h : InsInv f i k) : InsInv (swp f k) i (k - 1) := fun a b h1 h2 h3 => by
  unfold swp
  by_cases hb : b = k
  · subst hb
    rw [if_pos rfl, if_neg (by omega)]
    by_cases ha : a = b - 1
    · rw [if_pos ha]; omega
    · rw [if_neg ha]; exact h a (b - 1) (by omega) (by omega) (by omega)
  · rw [if_neg hb, if_neg h3]
    by_cases ha : a = k
    · subst ha; rw [if_pos rfl]; exact h (a - 1) b (by omega) h2 hb
    · rw [if_neg ha]
      by_cases ha2 : a = k - 1
      · rw [if_pos ha2]; exact h k b (by omega) h2 hb
      · rw [if_neg ha2]; exact h a b h1 h2 hb
theorem ins_end {f : Nat → Int} {i k : Nat} (h : InsInv f i k) (he : k = 0 ∨ f (k - 1) ≤ f k) : ∀ a b, a < b → b < i + 1 → f a ≤ f b := fun a b h1 h2 => by
  by_cases hb : b = k
  · subst hb
    rcases he with he | he
    · omega
    · by_cases ha : a = b - 1
      · rw [ha]; exact he
      · exact Int.le_trans (h a (b - 1) (by omega) (by omega) (by omega)) he
  · exact h a b h1 (by omega) hb

section
variable {α : Type}
/-- Two neighbours exchanged. -/
def swapL (l : List α) (k : Nat) (x y : α) : List α := (l.set k x).set (k - 1) y
theorem swapL_len (l : List α) (k : Nat) (x y : α) : (swapL l k x y).length = l.length := by simp [swapL]
theorem swapL_get (l : List α) (k : Nat) (hk : 0 < k) (hl : k < l.length) (a : Nat) (ha : a < l.length) : (swapL l k (l[k - 1]'(by omega)) l[k])[a]'(by rw [swapL_len]; exact ha) = if a = k then l[k - 1]'(by omega) else if a = k - 1 then l[k] else l[a] := by
  unfold swapL
  rw [List.getElem_set]
  by_cases h1 : k - 1 = a
  · rw [if_pos h1, if_neg (by omega), if_pos h1.symm]
  · rw [if_neg h1, List.getElem_set]
    by_cases h2 : k = a
    · rw [if_pos h2, if_pos h2.symm]
    · rw [if_neg h2, if_neg (fun e => h2 e.symm), if_neg (fun e => h1 e.symm)]
theorem swapL_perm (l : List α) (k : Nat) (hk : 0 < k) (hl : k < l.length) : (swapL l k (l[k - 1]'(by omega)) l[k]).Perm l := by
  obtain ⟨m, rfl⟩ : ∃ m, k = m + 1 := ⟨k - 1, by omega⟩
  have e : swapL l (m + 1) (l[m]'(by omega)) l[m + 1] = l.take m ++ l[m + 1] :: (l[m]'(by omega)) :: l.drop (m + 2) := by
    apply List.ext_getElem
    · rw [swapL_len]; simp; omega
    · intro a h1 h2
      have h3 : a < l.length := by rwa [swapL_len] at h1
      have hg := swapL_get l (m + 1) (by omega) hl a h3
      simp only [Nat.add_sub_cancel] at hg
      rw [hg]
      by_cases hm : a < m
      · rw [if_neg (by omega), if_neg (by omega), List.getElem_append_left (by simp; omega), List.getElem_take]
      · rw [List.getElem_append_right (by simp; omega)]
        simp only [List.length_take, Nat.min_eq_left (show m ≤ l.length by omega)]
        by_cases h4 : a = m
        · subst h4; simp
        · by_cases h5 : a = m + 1
          · subst h5; simp
          · rw [if_neg h5, if_neg h4]
            obtain ⟨q, rfl⟩ : ∃ q, a = m + 2 + q := ⟨a - (m + 2), by omega⟩
            simp only [show m + 2 + q - m = q + 1 + 1 by omega, List.getElem_cons_succ, List.getElem_drop]
  have e2 : l = l.take m ++ (l[m]'(by omega)) :: l[m + 1] :: l.drop (m + 2) := by
    rw [← List.drop_eq_getElem_cons, ← List.drop_eq_getElem_cons, List.take_append_drop]
  show (swapL l (m + 1) (l[m]'(by omega)) l[m + 1]).Perm l
  rw [e]
  conv => rhs; rw [e2]
  exact List.Perm.append_left _ (List.Perm.swap _ _ _)
end

theorem InsInv.congr {f f' : Nat → Int} {i k : Nat} (h : InsInv f i k) (e : ∀ a, a ≤ i → f a = f' a) : InsInv f' i k := fun a b h1 h2 h3 => by
  rw [← e a (by omega), ← e b h2]; exact h a b h1 h2 h3
end Go.Proofs.YtkpaikampmeooaaGreatDoor

namespace Go.Proofs.YtkpaikampmeooaaGreatDoor
open Go.RowKit Go.Maps

set_option maxRecDepth 100000 in
set_option maxHeartbeats 4000000 in
theorem aims3_any (l : List Rep) (A : Option Addr) (c : Nat) (r : Rep) (w : World) (h : Reps w w.heap.size A l) (hl : l.length ≤ maxLen) :
    Calls Tryz.prog 86 #[.slice A l.length c, .agg #[.int .i64 r.id, .int .i64 r.src, .int .i64 r.acc, .int .i64 r.made, .int .i64 r.about, .int .u8 r.kind, .int .i64 r.cents, .int .i64 r.of_]] w fun e w' => e = .returned (.bool (aimsB l r)) ∧ Below w.heap.size w w' := by
  have hb1 : Below w.heap.size w (w.alloc (.cells #[.int .i64 r.id, .int .i64 r.src, .int .i64 r.acc, .int .i64 r.made, .int .i64 r.about, .int .u8 r.kind, .int .i64 r.cents, .int .i64 r.of_] 56)) := (Below.refl _ _).alloc (Nat.le_refl _) _
  have h1 := h.later hb1
  have kr := Blk.new w #[.int .i64 r.id, .int .i64 r.src, .int .i64 r.acc, .int .i64 r.made, .int .i64 r.about, .int .u8 r.kind, .int .i64 r.cents, .int .i64 r.of_] 56
  have HA := Lib.hid (fun W hh => at3_any l A c r.of_ W hh hl)
  unfold maxLen at hl
  go_enter Tryz.func86, Tryz.ntmps86
  go_upto_region 2 with (go_at_call 22; (with_reducible refine (HA.out _ h1).mono ?_); rintro e w2 ⟨rfl, rfl⟩)
  generalize hW1 : w.alloc (.cells #[.int .i64 r.id, .int .i64 r.src, .int .i64 r.acc, .int .i64 r.made, .int .i64 r.about, .int .u8 r.kind, .int .i64 r.cents, .int .i64 r.of_] 56) = W1 at hb1 h1 kr ⊢
  clear hW1 HA
  have krc := After.cells (B := W1.heap.size) kr.cell kr.lt
  clear kr
  rcases ixR_cases l r.of_ with ⟨hx, ha⟩ | ⟨k, hk, hx, ha⟩
  · have Hv : Hid (aimsB l r = false) := Lib.hid (by unfold aimsB; rw [ha])
    rw [hx]
    clear hx ha h1
    refine wp_region_class_lit (C := fun w' => ∃ z : After W1.heap.size W1, w' = z.val) (by kernel_rfl) (by kernel_rfl) ⟨⟨_, (Below.refl _ _).drew⟩, rfl⟩ ?_
    repeat (go_big_quiet_step (fail))
    refine wpQuiet_nil ?_
    intro wq hw'
    obtain ⟨⟨wz, hz⟩, hw''⟩ := hw'
    dsimp only at hw''
    subst hw''
    go_wp2_with fail
    go_ret
    exact ⟨by rw [Hv.out]; rfl, hb1.trans (hz.mono hb1.size)⟩
  · obtain ⟨b, off, rfl, hb, C⟩ := h1.eight hk
    have Hv : Hid (aimsB l r = (decide (l[k].src = r.src) && decide (l[k].acc = r.acc))) := Lib.hid (by unfold aimsB; rw [ha])
    rw [hx]
    have d1 := After.cell (B := W1.heap.size) C.c1 hb
    have d2 := After.cell (B := W1.heap.size) C.c2 hb
    generalize l[k] = s at *
    have hkl : (k : Int) < (l.length : Int) := by omega
    have hk0 : decide ((0 : Int) ≤ (k : Int)) = true := decide_eq_true (by omega)
    clear hx ha C h1
    by_cases e1 : s.src = r.src
    · have f1 : (s.src == r.src) = true := by simp [e1]
      by_cases e2 : s.acc = r.acc
      · have f2 : (s.acc == r.acc) = true := by simp [e2]
        have Hw : Hid (aimsB l r = true) := Lib.hid (by rw [Hv.out]; simp [e1, e2])
        clear e1 e2 Hv
        refine wp_region_class_lit (C := fun w' => ∃ z : After W1.heap.size W1, w' = z.val) (by kernel_rfl) (by kernel_rfl) ⟨⟨_, (Below.refl _ _).drew⟩, rfl⟩ ?_
        repeat (go_big_quiet_step (fail))
        refine wpQuiet_nil ?_
        intro wq hw'
        obtain ⟨⟨wz, hz⟩, hw''⟩ := hw'
        dsimp only at hw''
        subst hw''
        go_wp2_with fail
        go_ret
        exact ⟨by rw [Hw.out]; rfl, hb1.trans (hz.mono hb1.size)⟩
      · have f2 : (s.acc == r.acc) = false := by simpa using e2
        have Hw : Hid (aimsB l r = false) := Lib.hid (by rw [Hv.out]; simp [e2])
        clear e1 e2 Hv
        refine wp_region_class_lit (C := fun w' => ∃ z : After W1.heap.size W1, w' = z.val) (by kernel_rfl) (by kernel_rfl) ⟨⟨_, (Below.refl _ _).drew⟩, rfl⟩ ?_
        repeat (go_big_quiet_step (fail))
        refine wpQuiet_nil ?_
        intro wq hw'
        obtain ⟨⟨wz, hz⟩, hw''⟩ := hw'
        dsimp only at hw''
        subst hw''
        go_wp2_with fail
        go_ret
        exact ⟨by rw [Hw.out]; rfl, hb1.trans (hz.mono hb1.size)⟩
    · have f1 : (s.src == r.src) = false := by simpa using e1
      have Hw : Hid (aimsB l r = false) := Lib.hid (by rw [Hv.out]; simp [e1])
      clear e1 Hv
      refine wp_region_class_lit (C := fun w' => ∃ z : After W1.heap.size W1, w' = z.val) (by kernel_rfl) (by kernel_rfl) ⟨⟨_, (Below.refl _ _).drew⟩, rfl⟩ ?_
      repeat (go_big_quiet_step (fail))
      refine wpQuiet_nil ?_
      intro wq hw'
      obtain ⟨⟨wz, hz⟩, hw''⟩ := hw'
      dsimp only at hw''
      subst hw''
      go_wp2_with fail
      go_ret
      exact ⟨by rw [Hw.out]; rfl, hb1.trans (hz.mono hb1.size)⟩

end Go.Proofs.YtkpaikampmeooaaGreatDoor

namespace Go.Proofs.YtkpaikampmeooaaGreatDoor
open Go.RowKit Go.Maps

set_option maxRecDepth 100000 in
set_option maxHeartbeats 4000000 in
theorem withdrawn3_any (l : List Rep) (A : Option Addr) (c : Nat) (id : Int) (w : World) (h : Reps w w.heap.size A l) (hl : l.length ≤ maxLen) (hk0 : atR l id ≠ none) :
    Calls Tryz.prog 63 #[.slice A l.length c, .int .i64 id] w fun e w' => e = .returned (.int .i64 (wdV l id)) ∧ Below w.heap.size w w' := by
  obtain ⟨k, hk, hx, hat⟩ : ∃ k, ∃ h : k < l.length, ixR l id = k ∧ atR l id = some l[k] := by
    rcases ixR_cases l id with ⟨_, e⟩ | e
    · exact absurd e hk0
    · exact e
  have HA3 := Lib.hid (fun W r hh => aims3_any l A c r W hh hl)
  have HAt := Lib.hid (fun W hh => hx ▸ at3_any l A c id W hh hl)
  have HTK : Hid (kindAt l id = l[k].kind) := Lib.hid (by unfold kindAt; rw [hat])
  unfold maxLen at hl
  clear hx hat hk0
  go_enter Tryz.func63, Tryz.ntmps63
  go_wp2_with (go_at_call 22; (with_reducible refine (HAt.out _ h).mono ?_); rintro e w1 ⟨rfl, rfl⟩)
  go_loopw [5, 7] (fun bb ii wr => ∃ (i : Nat) (z : Int), i ≤ l.length ∧ bb = .int .i64 z ∧ ii = .int .i64 i ∧ Hid (wdP l (l.take i) id = z ∧ Below w.heap.size w wr)) (fun _ ii _ => l.length - (vInt ii).toNat)
  case atStart => exact ⟨0, -1, Nat.zero_le _, rfl, rfl, Lib.hid ⟨rfl, Below.refl _ _⟩⟩
  case round =>
    obtain ⟨i, z, hi, rfl, rfl, hR⟩ := hrel
    by_cases hlt : i < l.length
    · as_aux_lemma =>
        have hil : (i : Int) < (l.length : Int) := by omega
        have hkl : (k : Int) < (l.length : Int) := by omega
        obtain ⟨hz, hB⟩ := hR.out
        obtain ⟨b, off, rfl, hb, C⟩ := (h.later hB).eight hlt
        obtain ⟨_, _, e2, _, C2⟩ := (h.later hB).eight hk
        cases e2
        have k5 := C2.c5
        have hkind := HTK.out
        have HT : Hid (l.take (i + 1) = l.take i ++ [l[i]]) := Lib.hid (List.take_succ_eq_append_getElem hlt)
        have HA := Lib.hid (HA3.out wr l[i] (h.later hB))
        generalize l[k] = s at *
        generalize l[i] = r at *
        obtain ⟨c0, c1, c2, c3, c4, c5, c6, c7⟩ := C
        clear C2 HA3 HAt
        by_cases h9 : r.kind = 9
        · have e9 : (r.kind == 9) = true := by simp [h9]
          by_cases ho : r.of_ = id
          · have eo : (r.of_ == id) = true := by simp [ho]
            by_cases hs : s.kind = 9
            · have es : (s.kind == 9) = true := by simp [hs]
              have es2 : (s.kind != 9) = false := by simp [hs]
              have HJ : Hid (wdP l (l.take (i + 1)) id = z) := Lib.hid (by rw [HT.out, wdP_step, if_neg (by rw [show wdB l id r = false by unfold wdB; simp [hkind, hs]]; simp), hz])
              clear h9 ho hs hR HTK
              go_wp2_with fail
              have hfin := hB
              go_roundw
              case rel => exact ⟨i + 1, z, by omega, by first | rfl | go_num, by first | rfl | go_num, Lib.hid ⟨HJ.out, hfin⟩⟩
              case measure => simp [vInt]; omega
            · have es : (s.kind == 9) = false := by simpa using hs
              have es2 : (s.kind != 9) = true := by simpa using hs
              cases ha : aimsB l r with
              | false =>
                rw [ha] at HA
                have HJ : Hid (wdP l (l.take (i + 1)) id = z) := Lib.hid (by rw [HT.out, wdP_step, if_neg (by rw [show wdB l id r = false by unfold wdB; simp [ha]]; simp), hz])
                clear h9 ho hs hR ha HTK
                go_wp2_with (go_at_call 86; (with_reducible refine (HA.out).mono ?_); rintro e w2 ⟨rfl, h2⟩)
                have hfin := hB.trans (h2.mono hB.size)
                go_roundw
                case rel => exact ⟨i + 1, z, by omega, by first | rfl | go_num, by first | rfl | go_num, Lib.hid ⟨HJ.out, hfin⟩⟩
                case measure => simp [vInt]; omega
              | true =>
                rw [ha] at HA
                have hwd : wdB l id r = true := by unfold wdB; simp [h9, ho, hkind, hs, ha]
                have hstep : wdP l (l.take (i + 1)) id = lessId z r := by rw [HT.out, wdP_step, if_pos hwd, hz]
                by_cases hb1 : z < 0
                · have HJ : Hid (wdP l (l.take (i + 1)) id = r.id) := Lib.hid (by rw [hstep]; unfold lessId; rw [if_pos (.inl hb1)])
                  have eb : decide (z < 0) = true := decide_eq_true hb1
                  clear h9 ho hs hR ha hwd hstep HTK
                  go_wp2_with (go_at_call 86; (with_reducible refine (HA.out).mono ?_); rintro e w2 ⟨rfl, h2⟩; have c0' := (h2.cell (p := ⟨b, off + i * 8, none⟩) hb).trans c0)
                  have hfin := hB.trans (h2.mono hB.size)
                  have c0' := (h2.cell (p := ⟨b, off + i * 8, none⟩) hb).trans c0
                  try go_wp2_with fail
                  go_roundw
                  case rel => exact ⟨i + 1, r.id, by omega, by first | rfl | go_num, by first | rfl | go_num, Lib.hid ⟨HJ.out, hfin⟩⟩
                  case measure => simp [vInt]; omega
                · have eb : decide (z < 0) = false := decide_eq_false hb1
                  by_cases hb2 : r.id < z
                  · have HJ : Hid (wdP l (l.take (i + 1)) id = r.id) := Lib.hid (by rw [hstep]; unfold lessId; rw [if_pos (.inr hb2)])
                    clear h9 ho hs hR ha hwd hstep HTK
                    go_wp2_with (go_at_call 86; (with_reducible refine (HA.out).mono ?_); rintro e w2 ⟨rfl, h2⟩; have c0' := (h2.cell (p := ⟨b, off + i * 8, none⟩) hb).trans c0)
                    have hfin := hB.trans (h2.mono hB.size)
                    try go_wp2_with fail
                    go_roundw
                    case rel => exact ⟨i + 1, r.id, by omega, by first | rfl | go_num, by first | rfl | go_num, Lib.hid ⟨HJ.out, hfin⟩⟩
                    case measure => simp [vInt]; omega
                  · have HJ : Hid (wdP l (l.take (i + 1)) id = z) := Lib.hid (by rw [hstep]; unfold lessId; rw [if_neg (by omega)])
                    clear h9 ho hs hR ha hwd hstep HTK
                    go_wp2_with (go_at_call 86; (with_reducible refine (HA.out).mono ?_); rintro e w2 ⟨rfl, h2⟩; have c0' := (h2.cell (p := ⟨b, off + i * 8, none⟩) hb).trans c0)
                    have hfin := hB.trans (h2.mono hB.size)
                    try go_wp2_with fail
                    go_roundw
                    case rel => exact ⟨i + 1, z, by omega, by first | rfl | go_num, by first | rfl | go_num, Lib.hid ⟨HJ.out, hfin⟩⟩
                    case measure => simp [vInt]; omega
          · have eo : (r.of_ == id) = false := by simpa using ho
            have HJ : Hid (wdP l (l.take (i + 1)) id = z) := Lib.hid (by rw [HT.out, wdP_step, if_neg (by rw [show wdB l id r = false by unfold wdB; simp [ho]]; simp), hz])
            clear h9 ho hR HTK
            go_wp2_with fail
            have hfin := hB
            go_roundw
            case rel => exact ⟨i + 1, z, by omega, by first | rfl | go_num, by first | rfl | go_num, Lib.hid ⟨HJ.out, hfin⟩⟩
            case measure => simp [vInt]; omega
        · have e9 : (r.kind == 9) = false := by simpa using h9
          have HJ : Hid (wdP l (l.take (i + 1)) id = z) := Lib.hid (by rw [HT.out, wdP_step, if_neg (by rw [show wdB l id r = false by unfold wdB; simp [h9]]; simp), hz])
          clear h9 hR HTK
          go_wp2_with fail
          have hfin := hB
          go_roundw
          case rel => exact ⟨i + 1, z, by omega, by first | rfl | go_num, by first | rfl | go_num, Lib.hid ⟨HJ.out, hfin⟩⟩
          case measure => simp [vInt]; omega
    · have hil : ¬ (i : Int) < (l.length : Int) := by omega
      have Hv : Hid (z = wdV l id) := Lib.hid (by
        have q := hR.out.1
        rw [List.take_of_length_le (by omega)] at q
        exact q.symm)
      have hfin := hR.out.2
      clear hR
      go_wp2_with fail
      go_ret
      exact ⟨by rw [← Hv.out]; rfl, hfin⟩

end Go.Proofs.YtkpaikampmeooaaGreatDoor
