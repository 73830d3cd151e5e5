/- What is bound to no function of one seat: blocks and worlds, maps as functions, appends, ranges. Written by genbase.py out of the texts of layer 1. -/
import Derived.Test.YtkpaikampmeooaaGreatDoorRows
import Derived.WalkKit
import Derived.WalkSpells
import Derived.WalkLawsBesides
import Derived.BigQuiet
import Derived.BigGuardPart
import Derived.Lib.Hide
import Derived.OneCell
import Derived.BigRegion
import Derived.IntWalk
import Derived.Maps.OwnSet
import Derived.Maps.RangeWalk
import Derived.Laws.OwnMore
import Derived.Deep.RegionHeld3
import Derived.Deep.AppendLies
import Derived.Maps.AppendAt
import Derived.ChangeKeysEq
import Derived.RegionTactic
import Derived.Lib.SlKeysI
import Derived.Sort.Grow
import Derived.Sort.OwnSorted
import Derived.Deep.Cut
import Derived.Deep.QuietTactic
import Derived.Deep.DeepCutAuto

namespace Go.Proofs.YtkpaikampmeooaaGreatDoor
open Go.RowKit Go.Maps

/-- The number of a value. -/
def vInt : Value → Int
  | .int _ q => q
  | _ => 0
theorem ret_bool {a b : Bool} (h : a = b) : Ending.returned (.bool a) = .returned (.bool b) := by rw [h]
theorem ret_int {k : IntKind} {a b : Int} (h : a = b) : Ending.returned (.int k a) = .returned (.int k b) := by rw [h]
/-- What a call leaves of old memory, in the walk's own words. -/
theorem bcell {W w1 : World} {B : Nat} (hb : Below B W w1) : (∀ b o, b < B → w1.cell? ⟨b, o, none⟩ = W.cell? ⟨b, o, none⟩) ∧ (∀ b o, b < B → w1.frozen? ⟨b, o, none⟩ = W.frozen? ⟨b, o, none⟩) :=
  ⟨fun b o h => hb.cell (p := ⟨b, o, none⟩) h, fun b o h => hb.frozen (p := ⟨b, o, none⟩) h⟩
theorem own_slice {w : World} {base : Nat} {e : TypeId} {size n : Nat} {v : Value} {xs : List Value} (h : w.ownsRow base e size v n xs) : ∃ A c, v = .slice A n c := by
  rcases h.2 with ⟨rfl, rfl⟩ | ⟨g, cap, cur, rfl, _⟩
  · exact ⟨_, _, rfl⟩
  · exact ⟨_, _, rfl⟩
/-- Block g holds just the cells cs. -/
def Blk (w : World) (g : Nat) (cs : Array Value) (t : TypeId) : Prop := w.heap[g]? = some (.cells cs t (0, 0))
theorem Blk.cell {w : World} {g : Nat} {cs : Array Value} {t : TypeId} (h : Blk w g cs t) (i : Nat) : w.cell? ⟨g, i, none⟩ = cs[i]? := by
  unfold Blk at h; simp [World.cell?, h]
theorem Blk.free {w : World} {g : Nat} {cs : Array Value} {t : TypeId} (h : Blk w g cs t) (i : Nat) : w.frozen? ⟨g, i, none⟩ = false := by
  unfold Blk at h; simp [World.frozen?, h]
theorem Blk.set {w : World} {g : Nat} {cs : Array Value} {t : TypeId} (h : Blk w g cs t) (i : Nat) (v : Value) : Blk (w.setCell ⟨g, i, none⟩ v) g (cs.setIfInBounds i v) t := by
  unfold Blk at h ⊢; simp [World.setCell, Array.getElem?_modify, h]
theorem Blk.lt {w : World} {g : Nat} {cs : Array Value} {t : TypeId} (h : Blk w g cs t) : g < w.heap.size := by
  rcases Nat.lt_or_ge g w.heap.size with hlt | hge
  · exact hlt
  · unfold Blk at h; rw [Array.getElem?_eq_none hge] at h; cases h
theorem Blk.alloc {w : World} {g : Nat} {cs : Array Value} {t : TypeId} (h : Blk w g cs t) (o : Obj) : Blk (w.alloc o) g cs t := (Go.heap_alloc_old w o h.lt).trans h
theorem Blk.new (w : World) (cs : Array Value) (t : TypeId) : Blk (w.alloc (.cells cs t)) w.heap.size cs t := heap_alloc_new w _
theorem Blk.below {w w' : World} {B g : Nat} {cs : Array Value} {t : TypeId} (h : Blk w g cs t) (hb : Below B w w') (hg : g < B) : Blk w' g cs t := (hb.block g hg).trans h
theorem Blk.far {w : World} {g : Nat} {cs : Array Value} {t : TypeId} (h : Blk w g cs t) {p : Addr} (hp : g ≠ p.block) (v : Value) : Blk (w.setCell p v) g cs t := by
  unfold Blk at h ⊢; simp [World.setCell, Array.getElem?_modify, h]; intro e; exact absurd e.symm hp
theorem Blk.drew {w : World} {g : Nat} {cs : Array Value} {t : TypeId} (h : Blk w g cs t) : Blk w.drew g cs t := h
theorem Blk.grown {w w' : World} {g : Nat} {cs : Array Value} {t : TypeId} {row : Option Nat} (h : Blk w g cs t) (hg : w.grownBy w' row) (hne : some g ≠ row) : Blk w' g cs t := (hg.block g h.lt hne).trans h
theorem newAt' (w : World) (cs : Array Value) (t : TypeId) {g : Nat} (hg : g = w.heap.size) : Blk (w.alloc (.cells cs t)) g cs t := hg ▸ Blk.new w cs t
/-- The worlds in which what lay below block B is as it was. -/
def After (B : Nat) (w : World) : Type := {W : World // Below B w W}
instance (B : Nat) (w : World) : Nonempty (After B w) := ⟨⟨w, Below.refl _ _⟩⟩
theorem wp_region_class_lit {P : Program} {C : World → Prop} {id : Nat} {Q : Exit → Act → World → Prop} {a : Act} {w : World} {l : List Oper} (hm : P.follows .mixedOrders = true) (hB : Region.lexB .any l.toArray = true) (hC : C w.drew)
    (h : wpQuiet P l.toArray C (fun a' => ∀ w', C w' → Q .normal a' w') l a) : (Code.region id l.toArray true).wp P Q a w :=
  wp_region_quiet (C := C) hm hB hC (by simpa using h)
theorem after_of {P : Program} {f : FuncId} {args : Array Value} {B : Nat} {w : World} (hB : B ≤ w.heap.size) (x : After B w) {v : Value} (h : Calls P f args x.val fun e w' => e = .returned v ∧ Below x.val.heap.size x.val w') :
    Calls P f args x.val fun e w' => e = .returned v ∧ ∃ y : After B w, w' = y.val :=
  h.mono fun _ w' ⟨he, hb⟩ => ⟨he, ⟨w', x.property.trans (hb.mono (Nat.le_trans hB x.property.size))⟩, rfl⟩
theorem after_of_same {P : Program} {f : FuncId} {args : Array Value} {B : Nat} {w : World} (x : After B w) {v : Value} (h : Calls P f args x.val fun e w' => e = .returned v ∧ x.val = w') :
    Calls P f args x.val fun e w' => e = .returned v ∧ ∃ y : After B w, w' = y.val :=
  h.mono fun _ _ ⟨he, hw⟩ => ⟨he, x, hw.symm⟩
theorem after_of_draw {P : Program} {f : FuncId} {args : Array Value} {B : Nat} {w : World} (x : After B w) {v : Value} (h : Calls P f args x.val fun e w' => e = .returned v ∧ ∃ n, w' = x.val.drewN n) :
    Calls P f args x.val fun e w' => e = .returned v ∧ ∃ y : After B w, w' = y.val :=
  h.mono fun _ w' ⟨he, n, hw⟩ => ⟨he, ⟨w', hw ▸ below_drewN x.property n⟩, rfl⟩
theorem After.cell {B : Nat} {w : World} {b o : Nat} {v : Value} (h : w.cell? ⟨b, o, none⟩ = some v) (hb : b < B) (x : After B w) : x.val.cell? ⟨b, o, none⟩ = some v := (x.property.cell (p := ⟨b, o, none⟩) hb).trans h
theorem After.cells {B : Nat} {w : World} {g : Nat} {cs : Array Value} (h : ∀ i, w.cell? ⟨g, i, none⟩ = cs[i]?) (hb : g < B) (x : After B w) (i : Nat) : x.val.cell? ⟨g, i, none⟩ = cs[i]? := (x.property.cell (p := ⟨g, i, none⟩) hb).trans (h i)
open Go.RowKit Go.Maps

/-- An element as it lies. -/
def rawElem (v : Value) : Option (DataW Value × List MemPlace) := some (.held v, [])

/-- What is asked for at a key, and what there is. -/
def gotAt (x : Option Value) (z : DataW Value) : DataW Value := match x with | none => z | some v => .held v

/-- Block b is a map of at most n entries, with the value G kl at the key kl. -/
def MapFn (w : World) (P : Program) (k : TypeId) (b n : Nat) (G : Lit → Option Value) : Prop :=
  ∃ D, w.ownsMap P k rawElem b n D ∧ ∀ kl z, D.atKey kl z = gotAt (G kl) z

open Classical in
noncomputable def putFn (G : Lit → Option Value) (kl : Lit) (v : Value) (x : Lit) : Option Value := if x = kl then some v else G x

variable {P : Program} {k : TypeId} {w w' : World} {b n : Nat} {G : Lit → Option Value}

theorem MapFn.made (w : World) (P : Program) (k : TypeId) : MapFn (w.alloc (.map #[] 0)) P k w.heap.size 0 (fun _ => none) :=
  ⟨.map [], World.ownsMap_made _ _ _ _, fun _ _ => rfl⟩
theorem MapFn.lt (h : MapFn w P k b n G) : b < w.heap.size := let ⟨_, h1, _⟩ := h; h1.lt
theorem MapFn.mono (h : MapFn w P k b n G) {n' : Nat} (hn : n ≤ n') : MapFn w P k b n' G := let ⟨D, h1, h2⟩ := h; ⟨D, h1.mono hn, h2⟩
theorem MapFn.kept {row : Option Nat} (h : MapFn w P k b n G) (hg : w.grownBy w' row) (hne : some b ≠ row) : MapFn w' P k b n G := let ⟨D, h1, h2⟩ := h; ⟨D, h1.kept hg hne, h2⟩
theorem MapFn.same (h : MapFn w P k b n G) (hb : w'.heap[b]? = w.heap[b]?) : MapFn w' P k b n G := by
  obtain ⟨D, ⟨es, clock, h1, h2, h3, h4⟩, h5⟩ := h
  exact ⟨D, ⟨es, clock, hb.trans h1, h2, h3, h4⟩, h5⟩
theorem MapFn.below {B : Nat} (h : MapFn w P k b n G) (hb : Below B w w') (hB : b < B) : MapFn w' P k b n G := h.same (hb.block b hB)
theorem MapFn.alloc (h : MapFn w P k b n G) (o : Obj) : MapFn (w.alloc o) P k b n G := h.same (Below.heap_alloc _ _ _ h.lt)
theorem MapFn.setCell (h : MapFn w P k b n G) {a : Addr} (ha : b ≠ a.block) (u : Value) : MapFn (w.setCell a u) P k b n G := h.same (Below.heap_setCell _ _ _ _ ha)
theorem MapFn.drew (h : MapFn w P k b n G) : MapFn w.drew P k b n G := h.same rfl

/-- 'm[k]': the value at the key, or the zero value. -/
theorem MapFn.look {t e : TypeId} (h : MapFn w P k b n G) (K : Keyed P k) (ht : P.underlying t = some (.map k e)) {z : Value} (hz : (zeroValue e).run P w = .ok z w) {key : Value} {kl : Lit} (hkey : keyOf P k key = some kl) :
    (Instr.lookup t (.map (some b)) key false).run P w = .ok ((G kl).getD z) w := by
  obtain ⟨D, ⟨es, clock, hb, F, hs, rfl⟩, h2⟩ := h
  rcases Maps.fit_look false K ht hz hb F hkey with ⟨hrun, _, hat⟩ | ⟨e0, y, _, _, hrun, hRv, hat, _⟩
  · have h3 := h2 kl .nil
    have h4 := h2 kl (.agg [])
    rw [hat] at h3 h4
    cases hG : G kl with
    | none => simpa using hrun
    | some v => rw [hG] at h3; cases h3
  · have h3 := h2 kl .nil
    rw [hat] at h3
    cases hG : G kl with
    | none => rw [hG] at h3; simp only [rawElem, Option.some.injEq] at hRv; rw [← hRv] at h3; cases h3
    | some v => 
      rw [hG] at h3
      simp only [rawElem, Option.some.injEq] at hRv
      rw [← hRv] at h3
      cases h3
      simpa using hrun

/-- 'v, ok := m[k]'. -/
theorem MapFn.lookOk {t e : TypeId} (h : MapFn w P k b n G) (K : Keyed P k) (ht : P.underlying t = some (.map k e)) {z : Value} (hz : (zeroValue e).run P w = .ok z w) {key : Value} {kl : Lit} (hkey : keyOf P k key = some kl) :
    (Instr.lookup t (.map (some b)) key true).run P w = .ok (.tuple #[(G kl).getD z, .bool (G kl).isSome]) w := by
  obtain ⟨D, ⟨es, clock, hb, F, hs, rfl⟩, h2⟩ := h
  rcases Maps.fit_look true K ht hz hb F hkey with ⟨hrun, _, hat⟩ | ⟨e0, y, _, _, hrun, hRv, hat, _⟩
  · have h3 := h2 kl .nil
    rw [hat] at h3
    cases hG : G kl with
    | none => simpa using hrun
    | some v => rw [hG] at h3; cases h3
  · have h3 := h2 kl .nil
    rw [hat] at h3
    simp only [rawElem, Option.some.injEq] at hRv
    cases hG : G kl with
    | none => rw [hG] at h3; rw [← hRv] at h3; cases h3
    | some v => 
      rw [hG] at h3
      rw [← hRv] at h3
      cases h3
      simpa using hrun

/-- 'm[k] = v'. -/
theorem MapFn.put {t e : TypeId} (h : MapFn w P k b n G) (K : Keyed P k) (ht : P.underlying t = some (.map k e)) (hn : n < maxLen) {key val : Value} {kl : Lit} (hkey : keyOf P k key = some kl) :
    ∃ w', (Instr.mapUpdate t (.map (some b)) key val).run P w = .ok () w' ∧ MapFn w' P k b (n + 1) (putFn G kl val) ∧ w.grownBy w' (some b) := by
  obtain ⟨D, h1, h2⟩ := h
  obtain ⟨w', hrun, h3, h4⟩ := h1.update K ht hn hkey (val := val) (d := .held val) (ps := []) rfl
  refine ⟨w', hrun, ⟨_, h3, fun x z => ?_⟩, h4⟩
  unfold putFn
  by_cases hx : x = kl
  · subst hx; rw [if_pos rfl, atKey_put_same h1.isMap (K.key hkey)]; rfl
  · rw [if_neg hx, atKey_put_other hx]; exact h2 x z

section
variable {ops : Array Oper} {rest : List Oper} {o : Oper} {a : Act} {Q : Exit → Act → World → Prop}
theorem wpList_lookup_fn (w : World) (hg : o.guard = none) (m x : Operand) (t : TypeId) (hop : o.op = Op.lookup t m x false) (k e : TypeId) (K : Keyed P k) (ht : P.underlying t = some (.map k e)) (z : Value) (hz : (zeroValue e).run P w = .ok z w)
    (b n : Nat) (G : Lit → Option Value) (hm : a.eval m = .map (some b)) (hown : MapFn w P k b n G) (key : Value) (kl : Lit) (hx : a.eval x = key) (hkey : keyOf P k key = some kl)
    (hK : wpList P ops Q rest (a.put o.dst ((G kl).getD z)) w) : wpList P ops Q (o :: rest) a w := by
  refine wpList_plain hg fun K' hK' => ?_
  have hrun := hown.look K ht hz hkey
  unfold Oper.wp
  simp [execOp, hop, hm, hx, hrun, Result.andThen]
  exact hK' _ _ hK
theorem wpList_lookupOk_fn (w : World) (hg : o.guard = none) (m x : Operand) (t : TypeId) (hop : o.op = Op.lookup t m x true) (k e : TypeId) (K : Keyed P k) (ht : P.underlying t = some (.map k e)) (z : Value) (hz : (zeroValue e).run P w = .ok z w)
    (b n : Nat) (G : Lit → Option Value) (hm : a.eval m = .map (some b)) (hown : MapFn w P k b n G) (key : Value) (kl : Lit) (hx : a.eval x = key) (hkey : keyOf P k key = some kl)
    (hK : wpList P ops Q rest (a.put o.dst (.tuple #[(G kl).getD z, .bool (G kl).isSome])) w) : wpList P ops Q (o :: rest) a w := by
  refine wpList_plain hg fun K' hK' => ?_
  have hrun := hown.lookOk K ht hz hkey
  unfold Oper.wp
  simp [execOp, hop, hm, hx, hrun, Result.andThen]
  exact hK' _ _ hK
theorem wpList_put_fn (w : World) (hg : o.guard = none) (m x v : Operand) (t : TypeId) (hop : o.op = Op.mapUpdate t m x v) (k e : TypeId) (K : Keyed P k) (ht : P.underlying t = some (.map k e))
    (b n : Nat) (G : Lit → Option Value) (hm : a.eval m = .map (some b)) (hown : MapFn w P k b n G) (hn : n < maxLen) (key val : Value) (kl : Lit) (hx : a.eval x = key) (hv : a.eval v = val) (hkey : keyOf P k key = some kl)
    (hK : ∀ w', MapFn w' P k b (n + 1) (putFn G kl val) → w.grownBy w' (some b) → wpList P ops Q rest (a.put o.dst undef) w') : wpList P ops Q (o :: rest) a w := by
  refine wpList_plain hg fun K' hK' => ?_
  obtain ⟨w', hrun, r1, r2⟩ := hown.put K ht hn hkey (val := val)
  unfold Oper.wp
  simp [execOp, hop, hm, hx, hv, hrun, Result.andThen]
  exact hK' _ _ (hK w' r1 r2)
end
theorem grown_of_below {w w' : World} (h : Below w.heap.size w w') : w.grownBy w' none := ⟨h.os, h.tape, h.output, h.size, fun k hk _ => h.block k hk⟩
theorem mapFn_heap {w : World} {P : Program} {k : TypeId} {b n : Nat} {G : Lit → Option Value} (h : MapFn w P k b n G) : ∃ es clock, w.heap[b]? = some (.map es clock) := by
  obtain ⟨D, ⟨es, clock, h1, _⟩, _⟩ := h
  exact ⟨es, clock, h1⟩
theorem size_le {H : Type} {w : World} {P : Program} {k : TypeId} {R : Value → Option (DataW H × List MemPlace)} {b n : Nat} {D : DataW H} (h : w.ownsMap P k R b n D) : Maps.size D ≤ n := by
  obtain ⟨es, clock, hb, F, hs, rfl⟩ := h
  simpa [Maps.size, length_sorted] using hs
theorem has_some {D : DataW Value} {G : Lit → Option Value} (hat : ∀ kl z, D.atKey kl z = gotAt (G kl) z) (kl : Lit) : has D kl = (G kl).isSome := by
  cases hg : G kl with
  | none => rw [has_false_of_atKey (fun z => by rw [hat, hg]; rfl)]; rfl
  | some v => rw [has_true_of_atKey (y := .held v) (fun z => by rw [hat, hg]; rfl)]; rfl
theorem got_some {D : DataW Value} {G : Lit → Option Value} (hat : ∀ kl z, D.atKey kl z = gotAt (G kl) z) {kl : Lit} {v : Value} (h : ∀ zd, D.atKey kl zd = .held v) : G kl = some v := by
  have h1 := (hat kl .nil).symm.trans (h .nil)
  cases hg : G kl with
  | none => rw [hg] at h1; cases h1
  | some u => rw [hg] at h1; cases h1; rfl
theorem intKeyShape (key : Value) (kl : Lit) (h : keyOf Tryz.prog 3 key = some kl) : ∃ x : Int, key = Value.int .i64 x := by
  obtain ⟨z, rfl, _⟩ := Go.Maps.keyOf_int_inv Tryz.underlying3 h; exact ⟨z, rfl⟩
theorem rawShape (v : Value) (y : DataW Value × List MemPlace) (_ : rawElem v = some y) : ∃ c : Value, v = (fun u : Value => u) c := ⟨v, rfl⟩
theorem own_below {w w' : World} {base : Nat} {e : TypeId} {size : Nat} {v : Value} {n : Nat} {xs : List Value} (h : w.ownsRow base e size v n xs) (hb : Below w.heap.size w w') : w'.ownsRow base e size v n xs := by
  refine ⟨h.1, ?_⟩
  rcases h.2 with h0 | ⟨g, cap, cur, h1, h2, h3, h4⟩
  · exact .inl h0
  · exact .inr ⟨g, cap, cur, h1, h2, (hb.block g (Array.getElem?_eq_some_iff.1 h3).1).trans h3, h4⟩
theorem grown_none (w : World) (row : Option Nat) : w.grownBy w row := ⟨rfl, rfl, rfl, Nat.le_refl _, fun _ _ _ => rfl⟩
theorem run_append_opt {P : Program} (w : World) (t ty : TypeId) (base : Nat) (e : TypeId) (i : TypeInfo) (z : Value) (size bytes : Nat) (ht : P.underlying t = some (.slice e)) (hi : P.info? e = some i) (hz : i.zero = some z)
    (hsize : i.size = size) (hby : i.bytes = bytes) (hzs : z.cells.size = size) (hsz : 0 < size)
    (v : Value) (n : Nat) (xs : List Value) (hown : w.ownsRow base e size v n xs)
    (A : Option Addr) (m c : Nat) (news : List Value) (hA : A = none → m = 0 ∧ c = 0) (hl : news.length = m * size) (hnews : ∀ ad, A = some ad → ∀ j u, news[j]? = some u → w.cell? (ad.add j) = some u) (h1 : ∀ u ∈ news, u.oneCell' = true)
    (h63 : n + m ≤ maxLen) (hbytes : (n + m) * bytes ≤ 140737488355328) (hbase : base ≤ w.heap.size) :
    ∃ v' w', (Builtin.append_ #[t, t] ty #[v, .slice A m c]).run P w = .ok v' w' ∧ w'.ownsRow base e size v' (n + m) (xs ++ news) ∧ w.grownBy w' v.ownBlock ∧ (v'.ownBlock = v.ownBlock ∨ v'.ownBlock = some w.heap.size) := by
  cases A with
  | none =>
    obtain ⟨rfl, rfl⟩ := hA rfl
    obtain rfl : news = [] := List.eq_nil_of_length_eq_zero (by simpa using hl)
    refine ⟨v, w, run_append_owned_none (w := w) base t ty e i size ht hi v n xs hown, by simpa using hown, grown_none w _, .inl rfl⟩
  | some ad =>
    obtain ⟨v', w', hr, h2, h3, _, h5⟩ := run_append_own_at (P := P) w base t ty e i z size bytes ht hi hz hsize hby hzs hsz v n xs hown ad m c news hl (hnews ad rfl) h1 h63 hbytes hbase
    exact ⟨v', w', hr, h2, h3, h5⟩
/-- At a step of a region that draws. -/
theorem step_append_opt {P : Program} {w : World} {ops : Array Oper} {o : Oper} {a : Act} {K : Act → World → Prop} {Q : Exit → Act → World → Prop} {E : Prop} (hgd : o.guard = none) (s x : Operand) (t : TypeId)
    (ho : o.op = .call { callee := .builtin .append, args := #[s, x], argTypes := #[t, t] })
    (base : Nat) (e : TypeId) (i : TypeInfo) (z : Value) (size bytes : Nat) (ht : P.underlying t = some (.slice e)) (hi : P.info? e = some i) (hz : i.zero = some z)
    (hsize : i.size = size) (hby : i.bytes = bytes) (hzs : z.cells.size = size) (hsz : 0 < size)
    (v : Value) (n : Nat) (xs : List Value) (hs : a.eval s = v) (hown : w.ownsRow base e size v n xs)
    (A : Option Addr) (m c : Nat) (news : List Value) (hx : a.eval x = .slice A m c) (hA : A = none → m = 0 ∧ c = 0) (hl : news.length = m * size) (hnews : ∀ ad, A = some ad → ∀ j u, news[j]? = some u → w.cell? (ad.add j) = some u) (h1 : ∀ u ∈ news, u.oneCell' = true)
    (h63 : n + m ≤ maxLen) (hbytes : (n + m) * bytes ≤ 140737488355328) (hbase : base ≤ w.heap.size)
    (h : ∀ v' w', w'.ownsRow base e size v' (n + m) (xs ++ news) → w.grownBy w' v.ownBlock → (v'.ownBlock = v.ownBlock ∨ v'.ownBlock = some w.heap.size) → K (a.put o.dst v') w') :
    if Region.wanted o (yielded ops a.tmps) = true then Oper.wp P o a w K Q else E := by
  have hw : Region.wanted o (yielded ops a.tmps) = true := by simp [Region.wanted, hgd]
  rw [if_pos hw]
  obtain ⟨v', w', hr, h2, h3, h4⟩ := run_append_opt (P := P) w t o.type base e i z size bytes ht hi hz hsize hby hzs hsz v n xs hown A m c news hA hl hnews h1 h63 hbytes hbase
  unfold Oper.wp execOp
  simp only [ho, resolve, invoke, builtin, Sem.run_bind, Sem.run_pure, Result.andThen_ok, List.map_toArray, List.map_cons, List.map_nil, hs, hx, hr]
  exact h v' w' h2 h3 h4
/-- At the list of a plain region's operations. -/
theorem wpList_append_opt {P : Program} {w : World} {ops : Array Oper} {rest : List Oper} {o : Oper} {a : Act} {Q : Exit → Act → World → Prop} (hgd : o.guard = none) (s x : Operand) (t : TypeId)
    (ho : o.op = .call { callee := .builtin .append, args := #[s, x], argTypes := #[t, t] })
    (base : Nat) (e : TypeId) (i : TypeInfo) (z : Value) (size bytes : Nat) (ht : P.underlying t = some (.slice e)) (hi : P.info? e = some i) (hz : i.zero = some z)
    (hsize : i.size = size) (hby : i.bytes = bytes) (hzs : z.cells.size = size) (hsz : 0 < size)
    (v : Value) (n : Nat) (xs : List Value) (hs : a.eval s = v) (hown : w.ownsRow base e size v n xs)
    (A : Option Addr) (m c : Nat) (news : List Value) (hx : a.eval x = .slice A m c) (hA : A = none → m = 0 ∧ c = 0) (hl : news.length = m * size) (hnews : ∀ ad, A = some ad → ∀ j u, news[j]? = some u → w.cell? (ad.add j) = some u) (h1 : ∀ u ∈ news, u.oneCell' = true)
    (h63 : n + m ≤ maxLen) (hbytes : (n + m) * bytes ≤ 140737488355328) (hbase : base ≤ w.heap.size)
    (h : ∀ v' w', w'.ownsRow base e size v' (n + m) (xs ++ news) → w.grownBy w' v.ownBlock → (v'.ownBlock = v.ownBlock ∨ v'.ownBlock = some w.heap.size) → wpList P ops Q rest (a.put o.dst v') w') :
    wpList P ops Q (o :: rest) a w := by
  refine wpList_plain hgd fun K hK => ?_
  obtain ⟨v', w', hr, h2, h3, h4⟩ := run_append_opt (P := P) w t o.type base e i z size bytes ht hi hz hsize hby hzs hsz v n xs hown A m c news hA hl hnews h1 h63 hbytes hbase
  unfold Oper.wp execOp
  simp only [ho, resolve, invoke, builtin, Sem.run_bind, Sem.run_pure, Result.andThen_ok, List.map_toArray, List.map_cons, List.map_nil, hs, hx, hr]
  exact hK _ _ (h v' w' h2 h3 h4)
theorem run_append_len {P : Program} (w : World) (t ty : TypeId) (base : Nat) (e : TypeId) (i : TypeInfo) (z : Value) (size bytes : Nat) (ht : P.underlying t = some (.slice e)) (hi : P.info? e = some i) (hz : i.zero = some z)
    (hsize : i.size = size) (hby : i.bytes = bytes) (hzs : z.cells.size = size) (hsz : 0 < size)
    (v : Value) (n : Nat) (xs : List Value) (hown : w.ownsRow base e size v n xs)
    (ad : Addr) (m c : Nat) (news : List Value) (hl : news.length = m * size) (hnews : ∀ j u, news[j]? = some u → w.cell? (ad.add j) = some u) (h1 : ∀ u ∈ news, u.oneCell' = true)
    (hm : 0 < n + m) (h63 : n + m ≤ maxLen) (hbytes : (n + m) * bytes ≤ 140737488355328) (hbase : base ≤ w.heap.size) :
    ∃ g cap w', (Builtin.append_ #[t, t] ty #[v, .slice (some ad) m c]).run P w = .ok (.slice (some ⟨g, 0, none⟩) (n + m) cap) w' ∧
      w'.ownsRow base e size (.slice (some ⟨g, 0, none⟩) (n + m) cap) (n + m) (xs ++ news) ∧ w.grownBy w' v.ownBlock ∧ (v.ownBlock = some g ∨ g = w.heap.size) ∧ base ≤ g ∧ g < w'.heap.size := by
  obtain ⟨v', w', hr, h2, h3, _, h5⟩ := run_append_own_at (P := P) w base t ty e i z size bytes ht hi hz hsize hby hzs hsz v n xs hown ad m c news hl hnews h1 h63 hbytes hbase
  obtain ⟨g, cap, rfl, hbg, hlt⟩ := h2.form hm
  refine ⟨g, cap, w', hr, h2, h3, ?_, hbg, hlt⟩
  rcases h5 with h5 | h5
  · exact .inl (by rw [← h5]; rfl)
  · exact .inr (by simpa [Value.ownBlock] using h5)
/-- What an append leaves whose outcome has an element at least: at a step of a region that draws. -/
theorem step_append_len {P : Program} {w : World} {ops : Array Oper} {o : Oper} {a : Act} {K : Act → World → Prop} {Q : Exit → Act → World → Prop} {E : Prop} (hgd : o.guard = none) (s x : Operand) (t : TypeId)
    (ho : o.op = .call { callee := .builtin .append, args := #[s, x], argTypes := #[t, t] })
    (base : Nat) (e : TypeId) (i : TypeInfo) (z : Value) (size bytes : Nat) (ht : P.underlying t = some (.slice e)) (hi : P.info? e = some i) (hz : i.zero = some z)
    (hsize : i.size = size) (hby : i.bytes = bytes) (hzs : z.cells.size = size) (hsz : 0 < size)
    (v : Value) (n : Nat) (xs : List Value) (hs : a.eval s = v) (hown : w.ownsRow base e size v n xs)
    (ad : Addr) (m c : Nat) (news : List Value) (hx : a.eval x = .slice (some ad) m c) (hl : news.length = m * size) (hnews : ∀ j u, news[j]? = some u → w.cell? (ad.add j) = some u) (h1 : ∀ u ∈ news, u.oneCell' = true)
    (hm : 0 < n + m) (h63 : n + m ≤ maxLen) (hbytes : (n + m) * bytes ≤ 140737488355328) (hbase : base ≤ w.heap.size)
    (h : ∀ g cap w', w'.ownsRow base e size (.slice (some ⟨g, 0, none⟩) (n + m) cap) (n + m) (xs ++ news) → w.grownBy w' v.ownBlock → (v.ownBlock = some g ∨ g = w.heap.size) → base ≤ g → g < w'.heap.size → K (a.put o.dst (.slice (some ⟨g, 0, none⟩) (n + m) cap)) w') :
    if Region.wanted o (yielded ops a.tmps) = true then Oper.wp P o a w K Q else E := by
  have hw : Region.wanted o (yielded ops a.tmps) = true := by simp [Region.wanted, hgd]
  rw [if_pos hw]
  obtain ⟨g, cap, w', hr, h2, h3, h4, h5, h6⟩ := run_append_len (P := P) w t o.type base e i z size bytes ht hi hz hsize hby hzs hsz v n xs hown ad m c news hl hnews h1 hm h63 hbytes hbase
  unfold Oper.wp execOp
  simp only [ho, resolve, invoke, builtin, Sem.run_bind, Sem.run_pure, Result.andThen_ok, List.map_toArray, List.map_cons, List.map_nil, hs, hx, hr]
  exact h g cap w' h2 h3 h4 h5 h6
theorem own_none {w : World} {base : Nat} {e : TypeId} {size n c : Nat} {A : Option Addr} {xs : List Value} (h : w.ownsRow base e size (.slice A n c) n xs) : A = none → n = 0 ∧ c = 0 := fun hA => by
  subst hA
  rcases h.2 with ⟨h1, h2⟩ | ⟨g, cap, cur, h1, _⟩
  · injection h1 with _ _ h3
    exact ⟨h2, h3⟩
  · cases h1
theorem own_empty (W : World) (t : TypeId) (size B : Nat) (hB : B ≤ W.heap.size) : (W.alloc (.cells #[] t)).ownsRow B t size (.slice (some ⟨W.heap.size, 0, none⟩) 0 0) 0 [] :=
  ⟨by simp, .inr ⟨W.heap.size, 0, #[], rfl, hB, heap_alloc_new _ _, Nat.le_refl _, by simp [maxLen], by simp, by simp⟩⟩
/-- The worlds that come of W by draws and new blocks behind it. -/
def Grown (W : World) : Type := {V : World // ∃ q os, V = Sort.grow (W.drewN q) os}
theorem Grown.zero (W : World) : ∃ q os, W = Sort.grow (W.drewN q) os := ⟨0, #[], by rw [Sort.grow_empty]; rfl⟩
instance (W : World) : Nonempty (Grown W) := ⟨⟨W, Grown.zero W⟩⟩
theorem Grown.trans {W V U : World} (h : ∃ q os, V = Sort.grow (W.drewN q) os) (k : ∃ q os, U = Sort.grow (V.drewN q) os) : ∃ q os, U = Sort.grow (W.drewN q) os := by
  obtain ⟨q, os, rfl⟩ := h
  obtain ⟨q', os', rfl⟩ := k
  refine ⟨q + q', os ++ os', ?_⟩
  rw [← Sort.grow_grow]
  show Sort.grow (Sort.grow ((W.drewN q).drewN q') os) os' = _
  rw [show (W.drewN q).drewN q' = W.drewN (q + q') by simp [World.drewN, Nat.add_assoc]]
theorem Grown.alloc (W : World) (o : Obj) : ∃ q os, W.alloc o = Sort.grow (W.drewN q) os := ⟨0, #[o], by rw [Sort.alloc_eq_grow]; rfl⟩
theorem Grown.drew (W : World) : ∃ q os, W.drew = Sort.grow (W.drewN q) os := ⟨1, #[], by rw [Sort.grow_empty]; rfl⟩
theorem Grown.cell {W : World} {b o : Nat} {v : Value} (h : W.cell? ⟨b, o, none⟩ = some v) (hb : b < W.heap.size) (x : Grown W) : x.val.cell? ⟨b, o, none⟩ = some v := by
  obtain ⟨V, q, os, rfl⟩ := x
  exact (Sort.cell?_grow (W.drewN q) os ⟨b, o, none⟩ hb).trans h
theorem Grown.cells {W : World} {g : Nat} {cs : Array Value} (h : ∀ i, W.cell? ⟨g, i, none⟩ = cs[i]?) (hb : g < W.heap.size) (x : Grown W) (i : Nat) : x.val.cell? ⟨g, i, none⟩ = cs[i]? := by
  obtain ⟨V, q, os, rfl⟩ := x
  exact (Sort.cell?_grow (W.drewN q) os ⟨g, i, none⟩ hb).trans (h i)
theorem grown_of {P : Program} {f : FuncId} {args : Array Value} {W : World} (x : Grown W) {v : Value} (h : Calls P f args x.val fun e w' => e = .returned v ∧ ∃ q os, w' = Sort.grow (x.val.drewN q) os) :
    Calls P f args x.val fun e w' => e = .returned v ∧ ∃ y : Grown W, w' = y.val :=
  h.mono fun _ w' ⟨he, hw⟩ => ⟨he, ⟨w', Grown.trans x.property hw⟩, rfl⟩

end Go.Proofs.YtkpaikampmeooaaGreatDoor

namespace Go.Proofs.YtkpaikampmeooaaGreatDoor

structure Rep where
  id : Int
  src : Int
  acc : Int
  made : Int
  about : Int
  kind : Int
  cents : Int
  of_ : Int
instance : Inhabited Rep := ⟨⟨0, 0, 0, 0, 0, 0, 0, 0⟩⟩

def inN (n lo hi : Int) : Bool := decide (lo ≤ n) && decide (n ≤ hi)
theorem inN_iff {n lo hi : Int} : inN n lo hi = true ↔ lo ≤ n ∧ n ≤ hi := by simp [inN]
def sameRep (r s : Rep) : Bool := decide (r.id = s.id) && decide (r.src = s.src) && decide (r.acc = s.acc) && decide (r.made = s.made) && decide (r.about = s.about) && decide (r.kind = s.kind) && decide (r.cents = s.cents) && decide (r.of_ = s.of_)
theorem sameRep_iff {r s : Rep} : sameRep r s = true ↔ r = s := by
  cases r; cases s
  simp [sameRep, and_assoc]

/-! Whether a report is valid. -/
def centsMax (k : Int) : Int := if k = 1 then 0 else if k = 7 then 0 else if k = 5 then 10000 else 1000000000000
def centsB (k n : Int) : Bool := inN n 0 (centsMax k)
def validB (r : Rep) : Bool :=
  inN r.id 0 999999 && inN r.src 0 999999 && inN r.acc 0 999999 && inN r.made 0 100000 && inN r.about 0 100000 && inN r.kind 1 9 &&
    (if r.kind ≤ 7 then centsB r.kind r.cents && decide (r.of_ = 0)
     else inN r.of_ 0 999999 && !decide (r.of_ = r.id) && (if r.kind = 8 then inN r.cents 0 1000000000000 else decide (r.cents = 0) && decide (r.about = 0)))
/-- The same, as the program has it: how much About and Cents may be at most, and whether another report is named, by kind. -/
def needAbout (k : Int) : Int := if k = 9 then 0 else 100000
def needCents (k : Int) : Int := if k = 9 then 0 else centsMax k
def needOf (k : Int) : Bool := decide (8 ≤ k)
def validP (r : Rep) : Bool :=
  inN r.kind 1 9 && inN r.id 0 999999 && inN r.src 0 999999 && inN r.acc 0 999999 && inN r.made 0 100000 && inN r.about 0 (needAbout r.kind) && inN r.cents 0 (needCents r.kind) &&
    (if needOf r.kind then inN r.of_ 0 999999 && !decide (r.of_ = r.id) else decide (r.of_ = 0))
theorem validP_eq (r : Rep) : validP r = validB r := by
  rw [Bool.eq_iff_iff]
  unfold validP validB needAbout needCents needOf centsB centsMax
  simp only [Bool.and_eq_true, inN_iff, decide_eq_true_eq]
  constructor
  · rintro ⟨⟨⟨⟨⟨⟨⟨h1, h2⟩, h3⟩, h4⟩, h5⟩, h6⟩, h7⟩, h8⟩
    refine ⟨⟨⟨⟨⟨⟨h2, h3⟩, h4⟩, h5⟩, ?_⟩, h1⟩, ?_⟩
    · split at h6 <;> omega
    · by_cases h9 : 8 ≤ r.kind
      · rw [if_neg (by omega)]
        rw [if_pos h9] at h8
        simp only [Bool.and_eq_true, inN_iff, Bool.not_eq_true', decide_eq_false_iff_not] at h8 ⊢
        refine ⟨h8, ?_⟩
        by_cases h10 : r.kind = 8
        · rw [if_pos h10]
          rw [if_neg (by omega)] at h7
          rw [if_neg (by omega), if_neg (by omega), if_neg (by omega)] at h7
          simpa [inN_iff] using h7
        · rw [if_neg h10]
          rw [if_pos (by omega)] at h6 h7
          simp only [Bool.and_eq_true, decide_eq_true_eq]
          omega
      · rw [if_pos (by omega)]
        rw [if_neg h9] at h8
        rw [if_neg (by omega)] at h7
        simp only [Bool.and_eq_true, inN_iff, decide_eq_true_eq] at h8 ⊢
        exact ⟨h7, h8⟩
  · rintro ⟨⟨⟨⟨⟨⟨h2, h3⟩, h4⟩, h5⟩, h6⟩, h1⟩, h8⟩
    by_cases h9 : 8 ≤ r.kind
    · rw [if_neg (by omega)] at h8
      simp only [Bool.and_eq_true, inN_iff, Bool.not_eq_true', decide_eq_false_iff_not] at h8
      rw [if_pos h9]
      simp only [Bool.and_eq_true, inN_iff, Bool.not_eq_true', decide_eq_false_iff_not]
      refine ⟨⟨⟨⟨⟨⟨⟨h1, h2⟩, h3⟩, h4⟩, h5⟩, ?_⟩, ?_⟩, h8.1⟩
      · split
        · rename_i h10
          have h11 := h8.2
          rw [if_neg (by omega)] at h11
          simp only [Bool.and_eq_true, decide_eq_true_eq] at h11
          omega
        · exact h6
      · by_cases h10 : r.kind = 8
        · have h11 := h8.2
          rw [if_pos h10, inN_iff] at h11
          rw [if_neg (by omega), if_neg (by omega), if_neg (by omega), if_neg (by omega)]
          exact h11
        · have h11 := h8.2
          rw [if_neg h10] at h11
          simp only [Bool.and_eq_true, decide_eq_true_eq] at h11
          rw [if_pos (by omega)]
          omega
    · rw [if_pos (by omega)] at h8
      simp only [Bool.and_eq_true, inN_iff, decide_eq_true_eq] at h8
      rw [if_neg h9, if_neg (by omega), if_neg (by omega)]
      simp only [decide_eq_true_eq]
      exact ⟨⟨⟨⟨⟨⟨⟨h1, h2⟩, h3⟩, h4⟩, h5⟩, h6⟩, h8.1⟩, h8.2⟩

/-! Whether reports that have the same number are the same. -/
def clashB (l : List Rep) : Bool := l.any fun r => l.any fun s => decide (r.id = s.id) && !sameRep r s
theorem clashB_iff {l : List Rep} : clashB l = false ↔ ∀ r ∈ l, ∀ s ∈ l, r.id = s.id → r = s := by
  unfold clashB
  rw [List.any_eq_false]
  constructor
  · intro h r hr s hs e
    have h1 := h r hr
    rw [Bool.not_eq_true, List.any_eq_false] at h1
    have h2 := h1 s hs
    simp only [e, decide_true, Bool.true_and, Bool.not_eq_true', Bool.not_eq_false] at h2
    exact sameRep_iff.1 h2
  · intro h r hr
    rw [Bool.not_eq_true, List.any_eq_false]
    intro s hs h1
    simp only [Bool.and_eq_true, decide_eq_true_eq, Bool.not_eq_true'] at h1
    have h2 := h r hr s hs h1.1
    subst h2
    rw [sameRep_iff.2 rfl] at h1
    exact absurd h1.2 (by decide)
def checkV (l : List Rep) : Int := if 60 < l.length then 4 else if l.all validB = true then (if clashB l = true then 31 else 0) else 30
theorem checkV_zero {l : List Rep} : checkV l = 0 ↔ l.length ≤ 60 ∧ (∀ r ∈ l, validB r = true) ∧ ∀ r ∈ l, ∀ s ∈ l, r.id = s.id → r = s := by
  unfold checkV
  by_cases h1 : 60 < l.length
  · rw [if_pos h1]; exact ⟨fun e => by omega, fun e => by omega⟩
  · rw [if_neg h1]
    by_cases h2 : l.all validB = true
    · rw [if_pos h2]
      by_cases h3 : clashB l = true
      · rw [if_pos h3]
        exact ⟨fun e => by omega, fun e => by rw [clashB_iff.2 e.2.2] at h3; cases h3⟩
      · rw [if_neg h3]
        exact ⟨fun _ => ⟨by omega, List.all_eq_true.1 h2, clashB_iff.1 (by simpa using h3)⟩, fun _ => rfl⟩
    · rw [if_neg h2]
      exact ⟨fun e => by omega, fun e => absurd (List.all_eq_true.2 e.2.1) h2⟩

/-! What is known on a day: each report once, in the order in which it comes. -/
def atR (l : List Rep) (id : Int) : Option Rep := l.find? fun r => decide (r.id = id)
theorem atR_some {l : List Rep} {id : Int} {r : Rep} (h : atR l id = some r) : r ∈ l ∧ r.id = id := by
  have h1 := List.find?_some h
  exact ⟨List.mem_of_find?_eq_some h, by simpa using h1⟩
theorem atR_none {l : List Rep} {id : Int} : atR l id = none ↔ ∀ r ∈ l, r.id ≠ id := by
  unfold atR
  rw [List.find?_eq_none]
  simp
theorem atR_mem {l : List Rep} (hn : (l.map Rep.id).Nodup) {r : Rep} (hr : r ∈ l) : atR l r.id = some r := by
  cases h : atR l r.id with
  | none => exact absurd rfl (atR_none.1 h r hr)
  | some s =>
    obtain ⟨hs, e⟩ := atR_some h
    obtain ⟨i, hi, rfl⟩ := List.getElem_of_mem hs
    obtain ⟨j, hj, rfl⟩ := List.getElem_of_mem hr
    have h3 : l.Pairwise fun a b => a.id ≠ b.id := List.pairwise_map.1 hn
    rw [List.pairwise_iff_getElem] at h3
    rcases Nat.lt_trichotomy i j with h | h | h
    · exact absurd e (h3 i j hi hj h)
    · subst h; rfl
    · exact absurd e.symm (h3 j i hj hi h)
def knowStep (d : Int) (out : List Rep) (r : Rep) : List Rep := if r.made ≤ d ∧ atR out r.id = none then out ++ [r] else out
def knownL (l : List Rep) (d : Int) : List Rep := l.foldl (knowStep d) []
theorem knownL_snoc (l : List Rep) (d : Int) (r : Rep) : knownL (l ++ [r]) d = knowStep d (knownL l d) r := by simp [knownL, List.foldl_append]
theorem knownL_spec {d : Int} : ∀ l : List Rep, ((knownL l d).map Rep.id).Nodup ∧ (∀ r ∈ knownL l d, r ∈ l ∧ r.made ≤ d) ∧ (∀ r ∈ l, r.made ≤ d → ∃ s ∈ knownL l d, s.id = r.id) := by
  suffices h : ∀ n, ∀ l : List Rep, l.length = n → ((knownL l d).map Rep.id).Nodup ∧ (∀ r ∈ knownL l d, r ∈ l ∧ r.made ≤ d) ∧ (∀ r ∈ l, r.made ≤ d → ∃ s ∈ knownL l d, s.id = r.id) from fun l => h l.length l rfl
  intro n
  induction n with
  | zero =>
    intro l hl
    obtain rfl := List.eq_nil_of_length_eq_zero hl
    exact ⟨List.nodup_nil, fun r hr => by simp [knownL] at hr, fun r hr => by simp at hr⟩
  | succ n ih =>
    intro l hl
    obtain ⟨l', x, rfl⟩ : ∃ l' x, l = l' ++ [x] := ⟨l.dropLast, l.getLast (by intro e; rw [e] at hl; simp at hl), (List.dropLast_concat_getLast _).symm⟩
    obtain ⟨h1, h2, h3⟩ := ih l' (by simpa using hl)
    rw [knownL_snoc]
    unfold knowStep
    by_cases hx : x.made ≤ d ∧ atR (knownL l' d) x.id = none
    · rw [if_pos hx]
      refine ⟨?_, ?_, ?_⟩
      · rw [List.map_append, List.nodup_append]
        refine ⟨h1, by simp, fun a ha b hb e => ?_⟩
        simp only [List.map_cons, List.map_nil, List.mem_cons, List.not_mem_nil, or_false] at hb
        obtain ⟨r, hr, rfl⟩ := List.mem_map.1 ha
        exact atR_none.1 hx.2 r hr (e.trans hb)
      · intro r hr
        rcases List.mem_append.1 hr with h | h
        · exact ⟨List.mem_append_left _ (h2 r h).1, (h2 r h).2⟩
        · simp only [List.mem_cons, List.not_mem_nil, or_false] at h
          subst h
          exact ⟨by simp, hx.1⟩
      · intro r hr hm
        rcases List.mem_append.1 hr with h | h
        · obtain ⟨s, hs, e⟩ := h3 r h hm
          exact ⟨s, List.mem_append_left _ hs, e⟩
        · simp only [List.mem_cons, List.not_mem_nil, or_false] at h
          subst h
          exact ⟨r, by simp, rfl⟩
    · rw [if_neg hx]
      refine ⟨h1, fun r hr => ⟨List.mem_append_left _ (h2 r hr).1, (h2 r hr).2⟩, fun r hr hm => ?_⟩
      rcases List.mem_append.1 hr with h | h
      · exact h3 r h hm
      · simp only [List.mem_cons, List.not_mem_nil, or_false] at h
        subst h
        cases h4 : atR (knownL l' d) r.id with
        | none => exact absurd ⟨hm, h4⟩ hx
        | some s => exact ⟨s, (atR_some h4).1, (atR_some h4).2⟩
/-- Where those with the same number are the same, what is known are just the reports that were made until the day. -/
theorem knownL_mem {l : List Rep} (hc : ∀ r ∈ l, ∀ s ∈ l, r.id = s.id → r = s) (d : Int) (r : Rep) : r ∈ knownL l d ↔ r ∈ l ∧ r.made ≤ d := by
  obtain ⟨_, h2, h3⟩ := knownL_spec (d := d) l
  refine ⟨h2 r, fun ⟨hr, hm⟩ => ?_⟩
  obtain ⟨s, hs, e⟩ := h3 r hr hm
  rw [← hc s (h2 s hs).1 r hr e]
  exact hs

/-! What is withdrawn, and by which report. -/
def aimsB (l : List Rep) (r : Rep) : Bool := match atR l r.of_ with
  | some s => decide (s.src = r.src) && decide (s.acc = r.acc)
  | none => false
def kindAt (l : List Rep) (id : Int) : Int := match atR l id with
  | some s => s.kind
  | none => 0
def wdB (l : List Rep) (id : Int) (w : Rep) : Bool := decide (w.kind = 9) && decide (w.of_ = id) && !decide (kindAt l id = 9) && aimsB l w
def lessId (best : Int) (w : Rep) : Int := if best < 0 ∨ w.id < best then w.id else best
def wdV (l : List Rep) (id : Int) : Int := (l.filter (wdB l id)).foldl lessId (-1)
theorem lessId_le (ws : List Rep) : ∀ b : Int, 0 ≤ b → (ws.foldl lessId b ≤ b) ∧ (∀ w ∈ ws, ws.foldl lessId b ≤ w.id) ∧ (ws.foldl lessId b = b ∨ ∃ w ∈ ws, ws.foldl lessId b = w.id) ∨ ∃ w ∈ ws, w.id < 0 := by
  induction ws with
  | nil => intro b hb; exact .inl ⟨Int.le_refl _, fun w hw => by simp at hw, .inl rfl⟩
  | cons w ws ih =>
    intro b hb
    by_cases hw0 : w.id < 0
    · exact .inr ⟨w, by simp, hw0⟩
    · rw [List.foldl_cons]
      have hstep : 0 ≤ lessId b w ∧ lessId b w ≤ b ∧ lessId b w ≤ w.id ∧ (lessId b w = b ∨ lessId b w = w.id) := by
        unfold lessId
        split <;> omega
      rcases ih (lessId b w) hstep.1 with ⟨h1, h2, h3⟩ | ⟨v, hv, h4⟩
      · refine .inl ⟨by omega, fun v hv => ?_, ?_⟩
        · rcases List.mem_cons.1 hv with rfl | hv
          · omega
          · exact h2 v hv
        · rcases h3 with h3 | ⟨v, hv, h3⟩
          · rcases hstep.2.2.2 with h5 | h5
            · exact .inl (h3.trans h5)
            · exact .inr ⟨w, by simp, h3.trans h5⟩
          · exact .inr ⟨v, by simp [hv], h3⟩
      · exact .inr ⟨v, by simp [hv], h4⟩
/-- The least number of those that withdraw, if there is one. -/
theorem wdV_spec {l : List Rep} (h0 : ∀ r ∈ l, 0 ≤ r.id) (id : Int) : (wdV l id = -1 ∧ ∀ w ∈ l, wdB l id w = false) ∨ (∃ w ∈ l, wdB l id w = true ∧ wdV l id = w.id ∧ ∀ v ∈ l, wdB l id v = true → w.id ≤ v.id) := by
  unfold wdV
  cases hf : l.filter (wdB l id) with
  | nil =>
    refine .inl ⟨rfl, fun w hw => ?_⟩
    rw [List.filter_eq_nil_iff] at hf
    simpa using hf w hw
  | cons w ws =>
    have hin : ∀ v ∈ w :: ws, v ∈ l ∧ wdB l id v = true := fun v hv => by rw [← hf] at hv; exact List.mem_filter.1 hv
    have hw0 := h0 w (hin w (by simp)).1
    have e : lessId (-1) w = w.id := by unfold lessId; rw [if_pos (.inl (by omega))]
    rw [List.foldl_cons, e]
    right
    rcases lessId_le ws w.id hw0 with ⟨h1, h2, h3⟩ | ⟨v, hv, h4⟩
    · have hall : ∀ v ∈ l, wdB l id v = true → ws.foldl lessId w.id ≤ v.id := fun v hv hb => by
        have hv' : v ∈ w :: ws := by rw [← hf]; exact List.mem_filter.2 ⟨hv, hb⟩
        rcases List.mem_cons.1 hv' with rfl | hv'
        · exact h1
        · exact h2 v hv'
      rcases h3 with h3 | ⟨v, hv, h3⟩
      · exact ⟨w, (hin w (by simp)).1, (hin w (by simp)).2, h3, fun v hv hb => by rw [← h3]; exact hall v hv hb⟩
      · exact ⟨v, (hin v (by simp [hv])).1, (hin v (by simp [hv])).2, h3, fun u hu hb => by rw [← h3]; exact hall u hu hb⟩
    · exact absurd h4 (by have := h0 v (hin v (by simp [hv])).1; omega)
theorem wdV_iff {l : List Rep} (h0 : ∀ r ∈ l, 0 ≤ r.id) (id : Int) : 0 ≤ wdV l id ↔ ∃ w ∈ l, wdB l id w = true := by
  rcases wdV_spec h0 id with ⟨h1, h2⟩ | ⟨w, hw, h1, h2, _⟩
  · rw [h1]
    exact ⟨fun e => by omega, fun ⟨w, hw, e⟩ => by rw [h2 w hw] at e; cases e⟩
  · rw [h2]
    exact ⟨fun _ => ⟨w, hw, h1⟩, fun _ => h0 w hw⟩

/-! What is corrected, and by which report: the last one, by the day on which it was made, and of the same day by its number. -/
def corB (l : List Rep) (id : Int) (c : Rep) : Bool := decide (c.kind = 8) && decide (c.of_ = id) && aimsB l c && decide (wdV l c.id < 0) && centsB (kindAt l id) c.cents
def laterB (c b : Rep) : Bool := decide (b.made < c.made) || decide (c.made = b.made) && decide (b.id < c.id)
theorem laterB_iff {c b : Rep} : laterB c b = true ↔ b.made < c.made ∨ c.made = b.made ∧ b.id < c.id := by simp [laterB]
def corStep (best : Option Rep) (c : Rep) : Option Rep := match best with
  | none => some c
  | some b => if laterB c b = true then some c else some b
def corV (l : List Rep) (id : Int) : Option Rep := (l.filter (corB l id)).foldl corStep none
theorem corStep_some (cs : List Rep) : ∀ b : Rep, ∃ m, cs.foldl corStep (some b) = some m ∧ (m = b ∨ m ∈ cs) ∧ (m = b ∨ laterB m b = true) ∧ ∀ c ∈ cs, laterB c m = false := by
  induction cs with
  | nil => exact fun b => ⟨b, rfl, .inl rfl, .inl rfl, fun c hc => by simp at hc⟩
  | cons c cs ih =>
    intro b
    rw [List.foldl_cons, show corStep (some b) c = if laterB c b = true then some c else some b from rfl]
    by_cases h : laterB c b = true
    · rw [if_pos h]
      obtain ⟨m, h1, h2, h3, h4⟩ := ih c
      refine ⟨m, h1, .inr (h2.elim (fun e => by simp [e]) fun e => by simp [e]), .inr ?_, fun d hd => ?_⟩
      · rcases h3 with rfl | h3
        · exact h
        · rw [laterB_iff] at h h3 ⊢; omega
      · rcases List.mem_cons.1 hd with rfl | hd
        · rcases h3 with rfl | h3
          · rw [Bool.eq_false_iff, Ne, laterB_iff]; omega
          · rw [Bool.eq_false_iff, Ne, laterB_iff]; rw [laterB_iff] at h3; omega
        · exact h4 d hd
    · rw [if_neg h]
      obtain ⟨m, h1, h2, h3, h4⟩ := ih b
      refine ⟨m, h1, h2.imp id fun e => by simp [e], h3, fun d hd => ?_⟩
      rcases List.mem_cons.1 hd with rfl | hd
      · rw [laterB_iff] at h
        rw [Bool.eq_false_iff, Ne, laterB_iff]
        rcases h3 with rfl | h3
        · exact h
        · rw [laterB_iff] at h3; omega
      · exact h4 d hd
/-- The last of some, if there is one: none of them is later. -/
theorem last_spec (cs : List Rep) : (cs.foldl corStep none = none ∧ cs = []) ∨ ∃ m ∈ cs, cs.foldl corStep none = some m ∧ ∀ c ∈ cs, laterB c m = false := by
  cases cs with
  | nil => exact .inl ⟨rfl, rfl⟩
  | cons b cs =>
    right
    obtain ⟨m, h1, h2, h3, h4⟩ := corStep_some cs b
    refine ⟨m, by rcases h2 with rfl | h2 <;> simp [*], h1, fun c hc => ?_⟩
    rcases List.mem_cons.1 hc with rfl | hc
    · rw [Bool.eq_false_iff, Ne, laterB_iff]
      rcases h3 with rfl | h3
      · omega
      · rw [laterB_iff] at h3; omega
    · exact h4 c hc
theorem last_unique {cs : List Rep} (hn : (cs.map Rep.id).Nodup) {m m' : Rep} (hm : m ∈ cs) (hm' : m' ∈ cs) (h : ∀ c ∈ cs, laterB c m = false) (h' : ∀ c ∈ cs, laterB c m' = false) : m = m' := by
  have h1 := h m' hm'
  have h2 := h' m hm
  rw [Bool.eq_false_iff, Ne, laterB_iff] at h1 h2
  have e : m.id = m'.id := by omega
  have a1 := atR_mem hn hm
  have a2 := atR_mem hn hm'
  rw [e, a2] at a1
  exact (Option.some.inj a1).symm
/-- The same, where they come by the day on which they were made, and of the same day by their numbers: the last one in the list. -/
theorem last_sorted {cs : List Rep} (hs : cs.Pairwise fun a b => laterB b a = true) : cs.foldl corStep none = cs.getLast? := by
  rcases last_spec cs with ⟨h1, rfl⟩ | ⟨m, hm, h1, h2⟩
  · rfl
  · rw [h1]
    obtain ⟨l, x, rfl⟩ : ∃ l x, cs = l ++ [x] := ⟨cs.dropLast, cs.getLast (by intro e; rw [e] at hm; simp at hm), (List.dropLast_concat_getLast _).symm⟩
    rw [List.getLast?_concat]
    rcases List.mem_append.1 hm with h | h
    · rw [List.pairwise_append] at hs
      have h3 := hs.2.2 m h x (by simp)
      rw [h2 x (by simp)] at h3
      cases h3
    · simp only [List.mem_cons, List.not_mem_nil, or_false] at h
      rw [h]

/-! What stands: facts that are not withdrawn, as they are corrected, by the day that they are about, and of the same day by their numbers. -/
def standOf (l : List Rep) (r : Rep) : Rep := match corV l r.id with
  | some c => { r with about := c.about, cents := c.cents }
  | none => r
theorem standOf_id (l : List Rep) (r : Rep) : (standOf l r).id = r.id := by unfold standOf; split <;> rfl
def factB (l : List Rep) (r : Rep) : Bool := decide (r.kind ≤ 7) && decide (wdV l r.id < 0)
def standS (l : List Rep) : List Rep := (l.filter (factB l)).map (standOf l)
def beforeB (a b : Rep) : Bool := decide (a.about < b.about) || decide (a.about = b.about) && decide (a.id < b.id)
theorem beforeB_iff {a b : Rep} : beforeB a b = true ↔ a.about < b.about ∨ a.about = b.about ∧ a.id < b.id := by simp [beforeB]
def leB (a b : Rep) : Bool := decide (a.about < b.about) || decide (a.about = b.about) && decide (a.id ≤ b.id)
theorem leB_iff {a b : Rep} : leB a b = true ↔ a.about < b.about ∨ a.about = b.about ∧ a.id ≤ b.id := by simp [leB]
def standL (l : List Rep) : List Rep := (standS l).mergeSort leB
theorem standS_nodup {l : List Rep} (hn : (l.map Rep.id).Nodup) : ((standS l).map Rep.id).Nodup := by
  have e : (standS l).map Rep.id = (l.filter (factB l)).map Rep.id := by
    unfold standS
    rw [List.map_map]
    exact List.map_congr_left fun r _ => standOf_id l r
  rw [e]
  exact hn.sublist (List.filter_sublist.map Rep.id)
/-- Two lists of the same reports, both in order, are the same. -/
theorem order_eq : ∀ {l m : List Rep}, l.Perm m → (l.Pairwise fun a b => beforeB a b = true) → (m.Pairwise fun a b => beforeB a b = true) → l = m
  | [], m, h, _, _ => (List.Perm.nil_eq h)
  | a :: l, m, h, hl, hm => by
    cases m with
    | nil => exact absurd h.length_eq (by simp)
    | cons b m =>
      have hab : a = b := by
        have h1 : a ∈ b :: m := h.mem_iff.1 (by simp)
        have h2 : b ∈ a :: l := h.mem_iff.2 (by simp)
        rcases List.mem_cons.1 h1 with e | h1
        · exact e
        · rcases List.mem_cons.1 h2 with e | h2
          · exact e.symm
          · have q1 := (List.pairwise_cons.1 hl).1 b h2
            have q2 := (List.pairwise_cons.1 hm).1 a h1
            rw [beforeB_iff] at q1 q2
            omega
      subst hab
      rw [order_eq (List.Perm.cons_inv h) (List.pairwise_cons.1 hl).2 (List.pairwise_cons.1 hm).2]
theorem standL_perm (l : List Rep) : (standL l).Perm (standS l) := List.mergeSort_perm _ _
theorem standL_sorted {l : List Rep} (hn : (l.map Rep.id).Nodup) : (standL l).Pairwise fun a b => beforeB a b = true := by
  have h1 : (standL l).Pairwise fun a b => leB a b = true := List.pairwise_mergeSort (fun a b c h1 h2 => by rw [leB_iff] at *; omega) (fun a b => by simp only [Bool.or_eq_true, leB_iff]; omega) _
  have h2 : ((standL l).map Rep.id).Nodup := ((standL_perm l).map Rep.id).nodup_iff.2 (standS_nodup hn)
  have h3 : (standL l).Pairwise fun a b => a.id ≠ b.id := List.pairwise_map.1 h2
  refine (h1.and h3).imp fun {a b} h => ?_
  obtain ⟨h4, h5⟩ := h
  rw [leB_iff] at h4
  rw [beforeB_iff]
  omega
/-- Whatever list has what stands, in order, is that one. -/
theorem standL_eq {l m : List Rep} (hn : (l.map Rep.id).Nodup) (hp : m.Perm (standS l)) (hs : m.Pairwise fun a b => beforeB a b = true) : m = standL l := order_eq (hp.trans (standL_perm l).symm) hs (standL_sorted hn)

/-- Both numbers by which reports are ordered, in one. -/
def keyR (r : Rep) : Int := r.about * 1000000 + r.id
theorem keyR_iff {a b : Rep} (ha : 0 ≤ a.id ∧ a.id ≤ 999999) (hb : 0 ≤ b.id ∧ b.id ≤ 999999) : keyR a < keyR b ↔ beforeB a b = true := by
  unfold keyR
  rw [beforeB_iff]
  omega
/-- By the day on which they were made, and of the same day by number. -/
def keyM (r : Rep) : Int := r.made * 1000000 + r.id
theorem keyM_iff {a b : Rep} (ha : 0 ≤ a.id ∧ a.id ≤ 999999) (hb : 0 ≤ b.id ∧ b.id ≤ 999999) : keyM a < keyM b ↔ laterB b a = true := by
  unfold keyM
  rw [laterB_iff]
  omega

end Go.Proofs.YtkpaikampmeooaaGreatDoor
