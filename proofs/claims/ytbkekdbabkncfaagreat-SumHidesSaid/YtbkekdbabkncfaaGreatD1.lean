/- Models, scores: as data, and how they lie in memory. -/
import Derived.Test.YtbkekdbabkncfaaGreatBase

namespace Go.Proofs.YtbkekdbabkncfaaGreat
open Go.RowKit Go.Maps

section
variable {α : Type}
/-- The slice at A holds l, n cells each, below block B. -/
def Flat (n : Nat) (f : α → List Value) (w : World) (B : Nat) (A : Option Addr) (l : List α) : Prop :=
  ∀ k, (h : k < l.length) → ∃ b off, A = some ⟨b, off, none⟩ ∧ b < B ∧ ∀ i, i < n → w.cell? ⟨b, off + k * n + i, none⟩ = (f l[k])[i]?
variable {n : Nat} {f : α → List Value} {w w' : World} {B B' : Nat} {A : Option Addr} {l : List α}
theorem Flat.below (h : Flat n f w B A l) (hb : Below B w w') : Flat n f w' B A l := fun k hk => by
  obtain ⟨b, off, e, h1, h2⟩ := h k hk
  exact ⟨b, off, e, h1, fun i hi => (hb.cell (p := ⟨b, off + k * n + i, none⟩) h1).trans (h2 i hi)⟩
theorem Flat.more (h : Flat n f w B A l) (hB : B ≤ B') : Flat n f w B' A l := fun k hk => by
  obtain ⟨b, off, e, h1, h2⟩ := h k hk
  exact ⟨b, off, e, by omega, h2⟩
theorem Flat.later (h : Flat n f w w.heap.size A l) (hb : Below w.heap.size w w') : Flat n f w' w'.heap.size A l := (h.below hb).more hb.size
theorem Flat.none_ (h : Flat n f w B none l) : l.length = 0 := by
  rcases Nat.eq_zero_or_pos l.length with e | e
  · exact e
  · obtain ⟨_, _, he, _⟩ := h 0 e; cases he
theorem Flat.nil (n : Nat) (f : α → List Value) (w : World) (B : Nat) (A : Option Addr) : Flat n f w B A [] := fun k hk => by simp at hk
theorem flat_get {f : α → List Value} {n : Nat} (hn : ∀ x, (f x).length = n) : ∀ (l : List α) (k : Nat) (h : k < l.length) (i : Nat), i < n → (l.flatMap f)[k * n + i]? = (f l[k])[i]?
  | x :: l, 0, _, i, hi => by
    rw [show (x :: l).flatMap f = f x ++ l.flatMap f from rfl, Nat.zero_mul, Nat.zero_add, List.getElem?_append_left (by rw [hn]; exact hi)]
    rfl
  | x :: l, k + 1, h, i, hi => by
    have e : (k + 1) * n + i - (f x).length = k * n + i := by rw [hn, Nat.succ_mul]; omega
    rw [show (x :: l).flatMap f = f x ++ l.flatMap f from rfl, List.getElem?_append_right (by rw [hn, Nat.succ_mul]; omega), e]
    exact flat_get hn l k (by simpa using h) i hi
theorem flat_len {f : α → List Value} {n : Nat} (hn : ∀ x, (f x).length = n) : ∀ l : List α, (l.flatMap f).length = l.length * n
  | [] => by simp
  | x :: l => by
    rw [show (x :: l).flatMap f = f x ++ l.flatMap f from rfl, List.length_append, flat_len hn l, List.length_cons, hn, Nat.succ_mul]; omega
theorem flat_ones {f : α → List Value} (h1 : ∀ x, ∀ u ∈ f x, u.oneCell' = true) (l : List α) : ∀ u ∈ l.flatMap f, u.oneCell' = true := fun u hu => by
  obtain ⟨x, _, hu⟩ := List.mem_flatMap.1 hu
  exact h1 x u hu
theorem Flat.news (hn : ∀ x, (f x).length = n) (h0 : 0 < n) (h : Flat n f w B A l) : ∀ ad, A = some ad → ∀ j u, (l.flatMap f)[j]? = some u → w.cell? (ad.add j) = some u := fun ad e j u hj => by
  obtain ⟨q, i, hi, rfl⟩ : ∃ q i, i < n ∧ j = q * n + i := ⟨j / n, j % n, Nat.mod_lt _ h0, by rw [Nat.mul_comm]; exact (Nat.div_add_mod j n).symm⟩
  have hq : q < l.length := by
    have h3 := (List.getElem?_eq_some_iff.1 hj).1
    rw [flat_len hn] at h3
    rcases Nat.lt_or_ge q l.length with h4 | h4
    · exact h4
    · have := Nat.mul_le_mul_right n h4; omega
  obtain ⟨b, off, he, _, hc⟩ := h q hq
  rw [e] at he; cases he
  rw [WideShapes.add_plain, ← Nat.add_assoc, hc i hi]
  rw [flat_get hn l q hq i hi] at hj
  exact hj
theorem Flat.of_own (hn : ∀ x, (f x).length = n) (_h0 : 0 < n) {W : World} {base : Nat} {A : Option Addr} {c : Nat} {t : TypeId} (h : W.ownsRow base t n (.slice A l.length c) l.length (l.flatMap f)) : Flat n f W W.heap.size A l := fun k hk => by
  obtain ⟨g, cap, hv, hb, hlt⟩ := h.form (by omega)
  simp only [Value.slice.injEq, true_and] at hv
  obtain ⟨rfl, rfl⟩ := hv
  refine ⟨g, 0, rfl, hlt, fun i hi => ?_⟩
  have hm : k * n + i < l.length * n := by
    have := Nat.mul_le_mul_right n (show k + 1 ≤ l.length from hk)
    rw [Nat.succ_mul] at this; omega
  rw [Nat.zero_add, h.cellAt (k * n + i) hm, flat_get hn l k hk i hi]
end

/-! The data. -/
structure Scl where
  cuts : List Int
  pts : List Int
  non : Int
structure Crd where
  weight : Int
  base : Int
  scales : List Scl
structure Nod where
  tr : Int
  cut : Int
  low : Int
  high : Int
  pts : Int
structure Tre where
  weight : Int
  nodes : List Nod
structure Mdl where
  traits : Int
  cards : List Crd
  trees : List Tre
  need : Int
instance : Inhabited Scl := ⟨⟨[], [], 0⟩⟩
instance : Inhabited Nod := ⟨⟨0, 0, 0, 0, 0⟩⟩

def inN (n lo hi : Int) : Bool := decide (lo ≤ n) && decide (n ≤ hi)
theorem inN_iff {n lo hi : Int} : inN n lo hi = true ↔ lo ≤ n ∧ n ≤ hi := by simp [inN]
def ptB (n : Int) : Bool := inN n (-1000000) 1000000
def rangeB (n : Nat) (p : Nat → Bool) : Bool := (List.range n).all p
theorem rangeB_iff {n : Nat} {p : Nat → Bool} : rangeB n p = true ↔ ∀ i, i < n → p i = true := by simp [rangeB]
theorem rangeB_stop {n : Nat} {p : Nat → Bool} {i : Nat} (hi : i < n) (h : p i = false) : rangeB n p = false := by
  cases hr : rangeB n p with
  | false => rfl
  | true => rw [rangeB_iff.1 hr i hi] at h; cases h
/-- Whether cut i is above the one before. -/
def cutB (l : List Int) (i : Nat) : Bool := inN (l.getD i 0) ((if i = 0 then 0 else l.getD (i - 1) 0) + 1) 1000000
def cutsB (l : List Int) : Bool := rangeB l.length (cutB l)
def sclB (s : Scl) : Bool := decide (s.cuts.length ≤ 3) && decide (s.pts.length = s.cuts.length + 1) && ptB s.non && cutsB s.cuts && s.pts.all ptB
def crdB (traits : Int) (c : Crd) : Bool := inN c.weight 0 1000 && ptB c.base && decide ((c.scales.length : Int) = traits) && c.scales.all sclB
/-- Whether node i of n is one. -/
def nodB (n : Nat) (traits : Int) (i : Nat) (x : Nod) : Bool :=
  if x.tr = -1 then decide (x.cut = 0) && decide (x.low = 0) && decide (x.high = 0) && ptB x.pts
  else inN x.tr 0 (traits - 1) && inN x.cut 1 1000000 && inN x.low (i + 1) (n - 1) && inN x.high (i + 1) (n - 1) && decide (x.low ≠ x.high) && decide (x.pts = 0)
def treB (traits : Int) (t : Tre) : Bool := inN t.weight 0 1000 && inN t.nodes.length 1 7 && rangeB t.nodes.length fun i => nodB t.nodes.length traits i (t.nodes.getD i default)
def mdlB (m : Mdl) : Bool := inN m.traits 1 5 && ptB m.need && decide (m.cards.length ≤ 2) && decide (m.trees.length ≤ 2) && m.cards.all (crdB m.traits) && m.trees.all (treB m.traits)
def mdlE (m : Mdl) : Int := if mdlB m = true then 0 else 60
def valB (v : Int) : Bool := inN v (-1) 1000000
def valsB (traits : Int) (x : List Int) : Bool := decide ((x.length : Int) = traits) && x.all valB
def forE (m : Mdl) (x : List Int) : Int := if mdlB m = true then (if valsB m.traits x = true then 0 else 61) else 60

theorem getD_lt {α : Type} (l : List α) (d : α) {k : Nat} (h : k < l.length) : l.getD k d = l[k] := by simp [h]

/-! Points. -/
def cntLe (cuts : List Int) (v : Int) : Nat := (cuts.filter fun c => decide (c ≤ v)).length
def onScl (s : Scl) (v : Int) : Int := if v = -1 then s.non else s.pts.getD (cntLe s.cuts v) 0
/-- The points of the first k scales. -/
def sclsUp (scales : List Scl) (x : List Int) : Nat → Int
  | 0 => 0
  | k + 1 => sclsUp scales x k + onScl (scales.getD k default) (x.getD k 0)
def onCrd (c : Crd) (x : List Int) : Int := c.base + sclsUp c.scales x c.scales.length
def treGo (nodes : List Nod) (x : List Int) : Nat → Nat → Int
  | 0, _ => 0
  | f + 1, a => if (nodes.getD a default).tr = -1 then (nodes.getD a default).pts else if x.getD (nodes.getD a default).tr.toNat 0 < (nodes.getD a default).cut then treGo nodes x f (nodes.getD a default).low.toNat else treGo nodes x f (nodes.getD a default).high.toNat
def onTre (t : Tre) (x : List Int) : Int := treGo t.nodes x t.nodes.length 0
def ptsL (m : Mdl) (x : List Int) : List Int := (m.cards.map fun c => onCrd c x) ++ (m.trees.map fun t => onTre t x)
def sumL : List Int → Int
  | [] => 0
  | x :: l => x + sumL l
def scoreM (m : Mdl) (x : List Int) : Int := sumL ((m.cards.map fun c => c.weight * onCrd c x) ++ (m.trees.map fun t => t.weight * onTre t x))
theorem sumL_append : ∀ a b : List Int, sumL (a ++ b) = sumL a + sumL b
  | [], b => by simp [sumL]
  | x :: a, b => by rw [List.cons_append, sumL, sumL_append a b, sumL]; omega
theorem sumL_snoc (a : List Int) (x : Int) : sumL (a ++ [x]) = sumL a + x := by rw [sumL_append]; simp [sumL]

/-! The bounds. -/
theorem ptB_iff {n : Int} : ptB n = true ↔ -1000000 ≤ n ∧ n ≤ 1000000 := inN_iff
theorem cntLe_le (cuts : List Int) (v : Int) : cntLe cuts v ≤ cuts.length := List.length_filter_le _ _
theorem sclB_iff {s : Scl} : sclB s = true ↔ s.cuts.length ≤ 3 ∧ s.pts.length = s.cuts.length + 1 ∧ ptB s.non = true ∧ cutsB s.cuts = true ∧ ∀ p ∈ s.pts, ptB p = true := by
  simp only [sclB, Bool.and_eq_true, decide_eq_true_eq, List.all_eq_true]
  constructor
  · rintro ⟨⟨⟨⟨h1, h2⟩, h3⟩, h4⟩, h5⟩; exact ⟨h1, h2, h3, h4, h5⟩
  · rintro ⟨h1, h2, h3, h4, h5⟩; exact ⟨⟨⟨⟨h1, h2⟩, h3⟩, h4⟩, h5⟩
theorem onScl_bound {s : Scl} (h : sclB s = true) (v : Int) : -1000000 ≤ onScl s v ∧ onScl s v ≤ 1000000 := by
  obtain ⟨_, h2, h3, _, h5⟩ := sclB_iff.1 h
  unfold onScl
  split
  · exact ptB_iff.1 h3
  · have hk : cntLe s.cuts v < s.pts.length := by have := cntLe_le s.cuts v; omega
    rw [getD_lt _ _ hk]
    exact ptB_iff.1 (h5 _ (List.getElem_mem hk))
theorem sclsUp_bound {l : List Scl} (h : ∀ s ∈ l, sclB s = true) (x : List Int) : ∀ k, k ≤ l.length → -(1000000 * (k : Int)) ≤ sclsUp l x k ∧ sclsUp l x k ≤ 1000000 * (k : Int)
  | 0, _ => by simp [sclsUp]
  | k + 1, hk => by
    have h1 := sclsUp_bound h x k (by omega)
    have h2 := onScl_bound (h l[k] (List.getElem_mem (by omega))) (x.getD k 0)
    have e : sclsUp l x (k + 1) = sclsUp l x k + onScl l[k] (x.getD k 0) := by rw [sclsUp, getD_lt _ _ (by omega : k < l.length)]
    rw [e]
    omega

/-! Where it lies. -/
structure SclD where
  v : Scl
  A : Option Addr
  a : Nat
  B : Option Addr
  b : Nat
structure CrdD where
  weight : Int
  base : Int
  scales : List SclD
  S : Option Addr
  s : Nat
structure TreD where
  v : Tre
  T : Option Addr
  t : Nat
structure MdlD where
  traits : Int
  cards : List CrdD
  C : Option Addr
  c : Nat
  trees : List TreD
  T : Option Addr
  t : Nat
  need : Int
instance : Inhabited SclD := ⟨⟨default, none, 0, none, 0⟩⟩
def CrdD.v (x : CrdD) : Crd := ⟨x.weight, x.base, x.scales.map SclD.v⟩
def MdlD.v (x : MdlD) : Mdl := ⟨x.traits, x.cards.map CrdD.v, x.trees.map TreD.v, x.need⟩
def intC (x : Int) : List Value := [.int .i64 x]
def sclC (x : SclD) : List Value := [.slice x.A x.v.cuts.length x.a, .slice x.B x.v.pts.length x.b, .int .i64 x.v.non]
def crdC (x : CrdD) : List Value := [.int .i64 x.weight, .int .i64 x.base, .slice x.S x.scales.length x.s]
def nodC (x : Nod) : List Value := [.int .i64 x.tr, .int .i64 x.cut, .int .i64 x.low, .int .i64 x.high, .int .i64 x.pts]
def treC (x : TreD) : List Value := [.int .i64 x.v.weight, .slice x.T x.v.nodes.length x.t]
theorem intC_len (x : Int) : (intC x).length = 1 := rfl
theorem sclC_len (x : SclD) : (sclC x).length = 3 := rfl
theorem crdC_len (x : CrdD) : (crdC x).length = 3 := rfl
theorem nodC_len (x : Nod) : (nodC x).length = 5 := rfl
theorem treC_len (x : TreD) : (treC x).length = 2 := rfl
theorem intC_one (x : Int) : ∀ u ∈ intC x, u.oneCell' = true := fun u hu => by
  simp only [intC, List.mem_cons, List.not_mem_nil, or_false] at hu
  rcases hu with rfl; rfl
theorem sclC_one (x : SclD) : ∀ u ∈ sclC x, u.oneCell' = true := fun u hu => by
  simp only [sclC, List.mem_cons, List.not_mem_nil, or_false] at hu
  rcases hu with rfl | rfl | rfl <;> rfl
theorem crdC_one (x : CrdD) : ∀ u ∈ crdC x, u.oneCell' = true := fun u hu => by
  simp only [crdC, List.mem_cons, List.not_mem_nil, or_false] at hu
  rcases hu with rfl | rfl | rfl <;> rfl
theorem nodC_one (x : Nod) : ∀ u ∈ nodC x, u.oneCell' = true := fun u hu => by
  simp only [nodC, List.mem_cons, List.not_mem_nil, or_false] at hu
  rcases hu with rfl | rfl | rfl | rfl | rfl <;> rfl
theorem treC_one (x : TreD) : ∀ u ∈ treC x, u.oneCell' = true := fun u hu => by
  simp only [treC, List.mem_cons, List.not_mem_nil, or_false] at hu
  rcases hu with rfl | rfl <;> rfl
abbrev IntsAt (w : World) (B : Nat) (A : Option Addr) (l : List Int) : Prop := Flat 1 intC w B A l
abbrev NodsAt (w : World) (B : Nat) (A : Option Addr) (l : List Nod) : Prop := Flat 5 nodC w B A l
structure SclAt (w : World) (B : Nat) (x : SclD) : Prop where
  cuts : IntsAt w B x.A x.v.cuts
  pts : IntsAt w B x.B x.v.pts
structure SclsAt (w : World) (B : Nat) (A : Option Addr) (l : List SclD) : Prop where
  row : Flat 3 sclC w B A l
  each : ∀ x ∈ l, SclAt w B x
structure CrdsAt (w : World) (B : Nat) (A : Option Addr) (l : List CrdD) : Prop where
  row : Flat 3 crdC w B A l
  each : ∀ x ∈ l, SclsAt w B x.S x.scales
structure TresAt (w : World) (B : Nat) (A : Option Addr) (l : List TreD) : Prop where
  row : Flat 2 treC w B A l
  each : ∀ x ∈ l, NodsAt w B x.T x.v.nodes
structure MdlAt (w : World) (B : Nat) (m : MdlD) : Prop where
  cards : CrdsAt w B m.C m.cards
  trees : TresAt w B m.T m.trees
section
variable {w w' : World} {B B' : Nat}
theorem SclAt.below {x : SclD} (h : SclAt w B x) (hb : Below B w w') : SclAt w' B x := ⟨h.cuts.below hb, h.pts.below hb⟩
theorem SclAt.more {x : SclD} (h : SclAt w B x) (hB : B ≤ B') : SclAt w B' x := ⟨h.cuts.more hB, h.pts.more hB⟩
theorem SclAt.later {x : SclD} (h : SclAt w w.heap.size x) (hb : Below w.heap.size w w') : SclAt w' w'.heap.size x := (h.below hb).more hb.size
theorem SclsAt.below {A : Option Addr} {l : List SclD} (h : SclsAt w B A l) (hb : Below B w w') : SclsAt w' B A l := ⟨h.row.below hb, fun x hx => (h.each x hx).below hb⟩
theorem SclsAt.more {A : Option Addr} {l : List SclD} (h : SclsAt w B A l) (hB : B ≤ B') : SclsAt w B' A l := ⟨h.row.more hB, fun x hx => (h.each x hx).more hB⟩
theorem SclsAt.later {A : Option Addr} {l : List SclD} (h : SclsAt w w.heap.size A l) (hb : Below w.heap.size w w') : SclsAt w' w'.heap.size A l := (h.below hb).more hb.size
theorem CrdsAt.below {A : Option Addr} {l : List CrdD} (h : CrdsAt w B A l) (hb : Below B w w') : CrdsAt w' B A l := ⟨h.row.below hb, fun x hx => (h.each x hx).below hb⟩
theorem CrdsAt.more {A : Option Addr} {l : List CrdD} (h : CrdsAt w B A l) (hB : B ≤ B') : CrdsAt w B' A l := ⟨h.row.more hB, fun x hx => (h.each x hx).more hB⟩
theorem CrdsAt.later {A : Option Addr} {l : List CrdD} (h : CrdsAt w w.heap.size A l) (hb : Below w.heap.size w w') : CrdsAt w' w'.heap.size A l := (h.below hb).more hb.size
theorem TresAt.below {A : Option Addr} {l : List TreD} (h : TresAt w B A l) (hb : Below B w w') : TresAt w' B A l := ⟨h.row.below hb, fun x hx => (h.each x hx).below hb⟩
theorem TresAt.more {A : Option Addr} {l : List TreD} (h : TresAt w B A l) (hB : B ≤ B') : TresAt w B' A l := ⟨h.row.more hB, fun x hx => (h.each x hx).more hB⟩
theorem TresAt.later {A : Option Addr} {l : List TreD} (h : TresAt w w.heap.size A l) (hb : Below w.heap.size w w') : TresAt w' w'.heap.size A l := (h.below hb).more hb.size
theorem MdlAt.below {m : MdlD} (h : MdlAt w B m) (hb : Below B w w') : MdlAt w' B m := ⟨h.cards.below hb, h.trees.below hb⟩
theorem MdlAt.more {m : MdlD} (h : MdlAt w B m) (hB : B ≤ B') : MdlAt w B' m := ⟨h.cards.more hB, h.trees.more hB⟩
theorem MdlAt.later {m : MdlD} (h : MdlAt w w.heap.size m) (hb : Below w.heap.size w w') : MdlAt w' w'.heap.size m := (h.below hb).more hb.size

/-! An element's cells. -/
theorem ints_at {A : Option Addr} {l : List Int} (h : IntsAt w B A l) {k : Nat} (hk : k < l.length) : ∃ b off, A = some ⟨b, off, none⟩ ∧ b < B ∧ w.cell? ⟨b, off + k, none⟩ = some (.int .i64 l[k]) := by
  obtain ⟨b, off, e, h1, h2⟩ := h k hk
  exact ⟨b, off, e, h1, by have := h2 0 (by omega); simpa [intC] using this⟩
theorem scls_at {A : Option Addr} {l : List SclD} (h : Flat 3 sclC w B A l) {k : Nat} (hk : k < l.length) : ∃ b off, A = some ⟨b, off, none⟩ ∧ b < B ∧ w.cell? ⟨b, off + k * 3, none⟩ = some (.slice l[k].A l[k].v.cuts.length l[k].a) ∧ w.cell? ⟨b, off + k * 3 + 1, none⟩ = some (.slice l[k].B l[k].v.pts.length l[k].b) ∧ w.cell? ⟨b, off + k * 3 + 2, none⟩ = some (.int .i64 l[k].v.non) := by
  obtain ⟨b, off, e, h1, h2⟩ := h k hk
  exact ⟨b, off, e, h1, h2 0 (by omega), h2 1 (by omega), h2 2 (by omega)⟩
theorem crds_at {A : Option Addr} {l : List CrdD} (h : Flat 3 crdC w B A l) {k : Nat} (hk : k < l.length) : ∃ b off, A = some ⟨b, off, none⟩ ∧ b < B ∧ w.cell? ⟨b, off + k * 3, none⟩ = some (.int .i64 l[k].weight) ∧ w.cell? ⟨b, off + k * 3 + 1, none⟩ = some (.int .i64 l[k].base) ∧ w.cell? ⟨b, off + k * 3 + 2, none⟩ = some (.slice l[k].S l[k].scales.length l[k].s) := by
  obtain ⟨b, off, e, h1, h2⟩ := h k hk
  exact ⟨b, off, e, h1, h2 0 (by omega), h2 1 (by omega), h2 2 (by omega)⟩
theorem tres_at {A : Option Addr} {l : List TreD} (h : Flat 2 treC w B A l) {k : Nat} (hk : k < l.length) : ∃ b off, A = some ⟨b, off, none⟩ ∧ b < B ∧ w.cell? ⟨b, off + k * 2, none⟩ = some (.int .i64 l[k].v.weight) ∧ w.cell? ⟨b, off + k * 2 + 1, none⟩ = some (.slice l[k].T l[k].v.nodes.length l[k].t) := by
  obtain ⟨b, off, e, h1, h2⟩ := h k hk
  exact ⟨b, off, e, h1, h2 0 (by omega), h2 1 (by omega)⟩
theorem nods_at {A : Option Addr} {l : List Nod} (h : NodsAt w B A l) {k : Nat} (hk : k < l.length) : ∃ b off, A = some ⟨b, off, none⟩ ∧ b < B ∧ w.cell? ⟨b, off + k * 5, none⟩ = some (.int .i64 l[k].tr) ∧ w.cell? ⟨b, off + k * 5 + 1, none⟩ = some (.int .i64 l[k].cut) ∧ w.cell? ⟨b, off + k * 5 + 2, none⟩ = some (.int .i64 l[k].low) ∧ w.cell? ⟨b, off + k * 5 + 3, none⟩ = some (.int .i64 l[k].high) ∧ w.cell? ⟨b, off + k * 5 + 4, none⟩ = some (.int .i64 l[k].pts) := by
  obtain ⟨b, off, e, h1, h2⟩ := h k hk
  exact ⟨b, off, e, h1, h2 0 (by omega), h2 1 (by omega), h2 2 (by omega), h2 3 (by omega), h2 4 (by omega)⟩
end
/-- Not larger than the statements look at. -/
structure SclLe (s : Scl) : Prop where
  cuts : s.cuts.length ≤ 10
  pts : s.pts.length ≤ 12
structure MdlLe (m : MdlD) : Prop where
  cards : m.cards.length ≤ 6
  trees : m.trees.length ≤ 6
  scales : ∀ c ∈ m.cards, c.scales.length ≤ 10
  scl : ∀ c ∈ m.cards, ∀ s ∈ c.scales, SclLe s.v
  nodes : ∀ t ∈ m.trees, t.v.nodes.length ≤ 20
end Go.Proofs.YtbkekdbabkncfaaGreat

namespace Go.Proofs.YtbkekdbabkncfaaGreat
open Go.RowKit Go.Maps

/-- All blocks with P stay. -/
structure Fr (P : Nat → Prop) (w w' : World) : Prop where
  size : w.heap.size ≤ w'.heap.size
  blk : ∀ b, b < w.heap.size → P b → w'.heap[b]? = w.heap[b]?
section
variable {P Q : Nat → Prop} {w w' w'' : World}
theorem Fr.refl (P : Nat → Prop) (w : World) : Fr P w w := ⟨Nat.le_refl _, fun _ _ _ => rfl⟩
theorem Fr.trans (h : Fr P w w') (h' : Fr P w' w'') : Fr P w w'' := ⟨Nat.le_trans h.size h'.size, fun b hb hp => (h'.blk b (Nat.lt_of_lt_of_le hb h.size) hp).trans (h.blk b hb hp)⟩
theorem Fr.below (h : Below w.heap.size w w') : Fr P w w' := ⟨h.size, fun b hb _ => h.block b hb⟩
theorem Fr.set {p : Addr} (hp : ¬ P p.block) (v : Value) : Fr P w (w.setCell p v) := ⟨by simp, fun b _ hb => Below.heap_setCell _ _ _ _ (fun e => hp (e ▸ hb))⟩
theorem Fr.grown {row : Option Nat} (h : w.grownBy w' row) (hr : ∀ b, P b → some b ≠ row) : Fr P w w' := ⟨h.size, fun b hb hp => h.block b hb (hr b hp)⟩
theorem Fr.imp (h : Fr P w w') (hq : ∀ b, Q b → P b) : Fr Q w w' := ⟨h.size, fun b hb hp => h.blk b hb (hq b hp)⟩
theorem Fr.cell (h : Fr P w w') {b o : Nat} (hb : b < w.heap.size) (hp : P b) : w'.cell? ⟨b, o, none⟩ = w.cell? ⟨b, o, none⟩ := World.cell?_of_block (h.blk b hb hp)
end
def FlatP {α : Type} (n : Nat) (f : α → List Value) (w : World) (P : Nat → Prop) (A : Option Addr) (l : List α) : Prop :=
  ∀ k, (h : k < l.length) → ∃ b off, A = some ⟨b, off, none⟩ ∧ b < w.heap.size ∧ P b ∧ ∀ i, i < n → w.cell? ⟨b, off + k * n + i, none⟩ = (f l[k])[i]?
section
variable {α : Type} {n : Nat} {f : α → List Value} {w w' : World} {P Q : Nat → Prop} {A : Option Addr} {l : List α}
theorem FlatP.flat (h : FlatP n f w P A l) : Flat n f w w.heap.size A l := fun k hk => by
  obtain ⟨b, off, e, h2, _, h4⟩ := h k hk
  exact ⟨b, off, e, h2, h4⟩
theorem FlatP.move (h : FlatP n f w P A l) (hf : Fr P w w') : FlatP n f w' P A l := fun k hk => by
  obtain ⟨b, off, e, h1, h2, h3⟩ := h k hk
  exact ⟨b, off, e, Nat.lt_of_lt_of_le h1 hf.size, h2, fun i hi => (hf.cell h1 h2).trans (h3 i hi)⟩
theorem FlatP.imp (h : FlatP n f w P A l) (hq : ∀ b, b < w.heap.size → P b → Q b) : FlatP n f w Q A l := fun k hk => by
  obtain ⟨b, off, e, h1, h2, h3⟩ := h k hk
  exact ⟨b, off, e, h1, hq b h1 h2, h3⟩
theorem FlatP.of_flat {B : Nat} (h : Flat n f w B A l) (hB : B ≤ w.heap.size) (hP : ∀ b, b < B → P b) : FlatP n f w P A l := fun k hk => by
  obtain ⟨b, off, e, h1, h3⟩ := h k hk
  exact ⟨b, off, e, Nat.lt_of_lt_of_le h1 hB, hP b h1, h3⟩
theorem FlatP.of_own (hn : ∀ x, (f x).length = n) (h0 : 0 < n) {base : Nat} {c : Nat} {t : TypeId} (h : w.ownsRow base t n (.slice A l.length c) l.length (l.flatMap f)) (hP : ∀ b, base ≤ b → b < w.heap.size → (Value.slice A l.length c).ownBlock = some b → P b) : FlatP n f w P A l := fun k hk => by
  obtain ⟨b, off, e, h2, h4⟩ := Flat.of_own hn h0 h k hk
  subst e
  have h5 := h.lt b rfl
  exact ⟨b, off, rfl, h2, hP b h5.1 h2 rfl, h4⟩
theorem FlatP.news (hn : ∀ x, (f x).length = n) (h0 : 0 < n) (h : FlatP n f w P A l) : ∀ ad, A = some ad → ∀ j u, (l.flatMap f)[j]? = some u → w.cell? (ad.add j) = some u := Flat.news hn h0 h.flat
theorem FlatP.none_ (h : FlatP n f w P none l) : l.length = 0 := Flat.none_ h.flat
end
structure SclP (w : World) (P : Nat → Prop) (x : SclD) : Prop where
  cuts : FlatP 1 intC w P x.A x.v.cuts
  pts : FlatP 1 intC w P x.B x.v.pts
structure SclsP (w : World) (P : Nat → Prop) (A : Option Addr) (l : List SclD) : Prop where
  row : FlatP 3 sclC w P A l
  each : ∀ x ∈ l, SclP w P x
section
variable {w w' : World} {P Q : Nat → Prop}
theorem SclP.move {x : SclD} (h : SclP w P x) (hf : Fr P w w') : SclP w' P x := ⟨h.cuts.move hf, h.pts.move hf⟩
theorem SclP.imp {x : SclD} (h : SclP w P x) (hq : ∀ b, b < w.heap.size → P b → Q b) : SclP w Q x := ⟨h.cuts.imp hq, h.pts.imp hq⟩
theorem SclsP.move {A : Option Addr} {l : List SclD} (h : SclsP w P A l) (hf : Fr P w w') : SclsP w' P A l := ⟨h.row.move hf, fun x hx => (h.each x hx).move hf⟩
theorem SclsP.imp {A : Option Addr} {l : List SclD} (h : SclsP w P A l) (hq : ∀ b, b < w.heap.size → P b → Q b) : SclsP w Q A l := ⟨h.row.imp hq, fun x hx => (h.each x hx).imp hq⟩
theorem SclsP.at_ {A : Option Addr} {l : List SclD} (h : SclsP w P A l) : SclsAt w w.heap.size A l := ⟨h.row.flat, fun x hx => ⟨(h.each x hx).cuts.flat, (h.each x hx).pts.flat⟩⟩
theorem SclsP.of_at {B : Nat} {A : Option Addr} {l : List SclD} (h : SclsAt w B A l) (hB : B ≤ w.heap.size) (hP : ∀ b, b < B → P b) : SclsP w P A l := ⟨.of_flat h.row hB hP, fun x hx => ⟨.of_flat (h.each x hx).cuts hB hP, .of_flat (h.each x hx).pts hB hP⟩⟩
end
/-- An element of an owned row, turned. -/
theorem flat_set {α : Type} {f : α → List Value} {n : Nat} (hn : ∀ x, (f x).length = n) : ∀ (l : List α) (k : Nat) (h : k < l.length) (y : α) (j : Nat) (u : Value), j < n → f y = (f l[k]).set j u → (l.set k y).flatMap f = (l.flatMap f).set (k * n + j) u
  | x :: l, 0, _, y, j, u, hj, e => by
    show f y ++ l.flatMap f = (f x ++ l.flatMap f).set (0 * n + j) u
    rw [Nat.zero_mul, Nat.zero_add, List.set_append_left _ _ (by rw [hn]; exact hj)]
    congr 1
  | x :: l, k + 1, h, y, j, u, hj, e => by
    have h1 := flat_set hn l k (by simpa using h) y j u hj e
    have e2 : (k + 1) * n + j = (f x).length + (k * n + j) := by rw [hn, Nat.succ_mul]; omega
    show f x ++ (l.set k y).flatMap f = (f x ++ l.flatMap f).set ((k + 1) * n + j) u
    rw [h1, e2, List.set_append_right _ _ (by omega), Nat.add_sub_cancel_left]
end Go.Proofs.YtbkekdbabkncfaaGreat
