/- What is bound to no function of one seat: blocks and worlds, maps as functions, appends, ranges. Written by genbase.py out of the texts of layer 1. -/
import Derived.Test.YtpahcbhikmfamaaGreatRows
import Derived.WalkKit
import Derived.WalkSpells
import Derived.WalkLawsBesides
import Derived.BigQuiet
import Derived.BigGuardPart
import Derived.Lib.Hide
import Derived.OneCell
import Derived.BigRegion
import Derived.IntWalk
import Derived.Maps.OwnSet
import Derived.Maps.RangeWalk
import Derived.Laws.OwnMore
import Derived.Deep.RegionHeld3
import Derived.Deep.AppendLies
import Derived.Maps.AppendAt
import Derived.ChangeKeysEq
import Derived.RegionTactic
import Derived.Lib.SlKeysI
import Derived.Sort.Grow
import Derived.Sort.OwnSorted
import Derived.Deep.Cut
import Derived.Deep.QuietTactic
import Derived.Deep.DeepCutAuto

namespace Go.Proofs.YtpahcbhikmfamaaGreat
open Go.RowKit Go.Maps

/-- The number of a value. -/
def vInt : Value → Int
  | .int _ q => q
  | _ => 0
theorem ret_bool {a b : Bool} (h : a = b) : Ending.returned (.bool a) = .returned (.bool b) := by rw [h]
theorem ret_int {k : IntKind} {a b : Int} (h : a = b) : Ending.returned (.int k a) = .returned (.int k b) := by rw [h]
/-- What a call leaves of old memory, in the walk's own words. -/
theorem bcell {W w1 : World} {B : Nat} (hb : Below B W w1) : (∀ b o, b < B → w1.cell? ⟨b, o, none⟩ = W.cell? ⟨b, o, none⟩) ∧ (∀ b o, b < B → w1.frozen? ⟨b, o, none⟩ = W.frozen? ⟨b, o, none⟩) :=
  ⟨fun b o h => hb.cell (p := ⟨b, o, none⟩) h, fun b o h => hb.frozen (p := ⟨b, o, none⟩) h⟩
theorem own_slice {w : World} {base : Nat} {e : TypeId} {size n : Nat} {v : Value} {xs : List Value} (h : w.ownsRow base e size v n xs) : ∃ A c, v = .slice A n c := by
  rcases h.2 with ⟨rfl, rfl⟩ | ⟨g, cap, cur, rfl, _⟩
  · exact ⟨_, _, rfl⟩
  · exact ⟨_, _, rfl⟩
/-- Block g holds just the cells cs. -/
def Blk (w : World) (g : Nat) (cs : Array Value) (t : TypeId) : Prop := w.heap[g]? = some (.cells cs t (0, 0))
theorem Blk.cell {w : World} {g : Nat} {cs : Array Value} {t : TypeId} (h : Blk w g cs t) (i : Nat) : w.cell? ⟨g, i, none⟩ = cs[i]? := by
  unfold Blk at h; simp [World.cell?, h]
theorem Blk.free {w : World} {g : Nat} {cs : Array Value} {t : TypeId} (h : Blk w g cs t) (i : Nat) : w.frozen? ⟨g, i, none⟩ = false := by
  unfold Blk at h; simp [World.frozen?, h]
theorem Blk.set {w : World} {g : Nat} {cs : Array Value} {t : TypeId} (h : Blk w g cs t) (i : Nat) (v : Value) : Blk (w.setCell ⟨g, i, none⟩ v) g (cs.setIfInBounds i v) t := by
  unfold Blk at h ⊢; simp [World.setCell, Array.getElem?_modify, h]
theorem Blk.lt {w : World} {g : Nat} {cs : Array Value} {t : TypeId} (h : Blk w g cs t) : g < w.heap.size := by
  rcases Nat.lt_or_ge g w.heap.size with hlt | hge
  · exact hlt
  · unfold Blk at h; rw [Array.getElem?_eq_none hge] at h; cases h
theorem Blk.alloc {w : World} {g : Nat} {cs : Array Value} {t : TypeId} (h : Blk w g cs t) (o : Obj) : Blk (w.alloc o) g cs t := (Go.heap_alloc_old w o h.lt).trans h
theorem Blk.new (w : World) (cs : Array Value) (t : TypeId) : Blk (w.alloc (.cells cs t)) w.heap.size cs t := heap_alloc_new w _
theorem Blk.below {w w' : World} {B g : Nat} {cs : Array Value} {t : TypeId} (h : Blk w g cs t) (hb : Below B w w') (hg : g < B) : Blk w' g cs t := (hb.block g hg).trans h
theorem Blk.far {w : World} {g : Nat} {cs : Array Value} {t : TypeId} (h : Blk w g cs t) {p : Addr} (hp : g ≠ p.block) (v : Value) : Blk (w.setCell p v) g cs t := by
  unfold Blk at h ⊢; simp [World.setCell, Array.getElem?_modify, h]; intro e; exact absurd e.symm hp
theorem Blk.drew {w : World} {g : Nat} {cs : Array Value} {t : TypeId} (h : Blk w g cs t) : Blk w.drew g cs t := h
theorem Blk.grown {w w' : World} {g : Nat} {cs : Array Value} {t : TypeId} {row : Option Nat} (h : Blk w g cs t) (hg : w.grownBy w' row) (hne : some g ≠ row) : Blk w' g cs t := (hg.block g h.lt hne).trans h
theorem newAt' (w : World) (cs : Array Value) (t : TypeId) {g : Nat} (hg : g = w.heap.size) : Blk (w.alloc (.cells cs t)) g cs t := hg ▸ Blk.new w cs t
/-- The worlds in which what lay below block B is as it was. -/
def After (B : Nat) (w : World) : Type := {W : World // Below B w W}
instance (B : Nat) (w : World) : Nonempty (After B w) := ⟨⟨w, Below.refl _ _⟩⟩
theorem wp_region_class_lit {P : Program} {C : World → Prop} {id : Nat} {Q : Exit → Act → World → Prop} {a : Act} {w : World} {l : List Oper} (hm : P.follows .mixedOrders = true) (hB : Region.lexB .any l.toArray = true) (hC : C w.drew)
    (h : wpQuiet P l.toArray C (fun a' => ∀ w', C w' → Q .normal a' w') l a) : (Code.region id l.toArray true).wp P Q a w :=
  wp_region_quiet (C := C) hm hB hC (by simpa using h)
theorem after_of {P : Program} {f : FuncId} {args : Array Value} {B : Nat} {w : World} (hB : B ≤ w.heap.size) (x : After B w) {v : Value} (h : Calls P f args x.val fun e w' => e = .returned v ∧ Below x.val.heap.size x.val w') :
    Calls P f args x.val fun e w' => e = .returned v ∧ ∃ y : After B w, w' = y.val :=
  h.mono fun _ w' ⟨he, hb⟩ => ⟨he, ⟨w', x.property.trans (hb.mono (Nat.le_trans hB x.property.size))⟩, rfl⟩
theorem after_of_same {P : Program} {f : FuncId} {args : Array Value} {B : Nat} {w : World} (x : After B w) {v : Value} (h : Calls P f args x.val fun e w' => e = .returned v ∧ x.val = w') :
    Calls P f args x.val fun e w' => e = .returned v ∧ ∃ y : After B w, w' = y.val :=
  h.mono fun _ _ ⟨he, hw⟩ => ⟨he, x, hw.symm⟩
theorem after_of_draw {P : Program} {f : FuncId} {args : Array Value} {B : Nat} {w : World} (x : After B w) {v : Value} (h : Calls P f args x.val fun e w' => e = .returned v ∧ ∃ n, w' = x.val.drewN n) :
    Calls P f args x.val fun e w' => e = .returned v ∧ ∃ y : After B w, w' = y.val :=
  h.mono fun _ w' ⟨he, n, hw⟩ => ⟨he, ⟨w', hw ▸ below_drewN x.property n⟩, rfl⟩
theorem After.cell {B : Nat} {w : World} {b o : Nat} {v : Value} (h : w.cell? ⟨b, o, none⟩ = some v) (hb : b < B) (x : After B w) : x.val.cell? ⟨b, o, none⟩ = some v := (x.property.cell (p := ⟨b, o, none⟩) hb).trans h
theorem After.cells {B : Nat} {w : World} {g : Nat} {cs : Array Value} (h : ∀ i, w.cell? ⟨g, i, none⟩ = cs[i]?) (hb : g < B) (x : After B w) (i : Nat) : x.val.cell? ⟨g, i, none⟩ = cs[i]? := (x.property.cell (p := ⟨g, i, none⟩) hb).trans (h i)
open Go.RowKit Go.Maps

/-- An element as it lies. -/
def rawElem (v : Value) : Option (DataW Value × List MemPlace) := some (.held v, [])

/-- What is asked for at a key, and what there is. -/
def gotAt (x : Option Value) (z : DataW Value) : DataW Value := match x with | none => z | some v => .held v

/-- Block b is a map of at most n entries, with the value G kl at the key kl. -/
def MapFn (w : World) (P : Program) (k : TypeId) (b n : Nat) (G : Lit → Option Value) : Prop :=
  ∃ D, w.ownsMap P k rawElem b n D ∧ ∀ kl z, D.atKey kl z = gotAt (G kl) z

open Classical in
noncomputable def putFn (G : Lit → Option Value) (kl : Lit) (v : Value) (x : Lit) : Option Value := if x = kl then some v else G x

variable {P : Program} {k : TypeId} {w w' : World} {b n : Nat} {G : Lit → Option Value}

theorem MapFn.made (w : World) (P : Program) (k : TypeId) : MapFn (w.alloc (.map #[] 0)) P k w.heap.size 0 (fun _ => none) :=
  ⟨.map [], World.ownsMap_made _ _ _ _, fun _ _ => rfl⟩
theorem MapFn.lt (h : MapFn w P k b n G) : b < w.heap.size := let ⟨_, h1, _⟩ := h; h1.lt
theorem MapFn.mono (h : MapFn w P k b n G) {n' : Nat} (hn : n ≤ n') : MapFn w P k b n' G := let ⟨D, h1, h2⟩ := h; ⟨D, h1.mono hn, h2⟩
theorem MapFn.kept {row : Option Nat} (h : MapFn w P k b n G) (hg : w.grownBy w' row) (hne : some b ≠ row) : MapFn w' P k b n G := let ⟨D, h1, h2⟩ := h; ⟨D, h1.kept hg hne, h2⟩
theorem MapFn.same (h : MapFn w P k b n G) (hb : w'.heap[b]? = w.heap[b]?) : MapFn w' P k b n G := by
  obtain ⟨D, ⟨es, clock, h1, h2, h3, h4⟩, h5⟩ := h
  exact ⟨D, ⟨es, clock, hb.trans h1, h2, h3, h4⟩, h5⟩
theorem MapFn.below {B : Nat} (h : MapFn w P k b n G) (hb : Below B w w') (hB : b < B) : MapFn w' P k b n G := h.same (hb.block b hB)
theorem MapFn.alloc (h : MapFn w P k b n G) (o : Obj) : MapFn (w.alloc o) P k b n G := h.same (Below.heap_alloc _ _ _ h.lt)
theorem MapFn.setCell (h : MapFn w P k b n G) {a : Addr} (ha : b ≠ a.block) (u : Value) : MapFn (w.setCell a u) P k b n G := h.same (Below.heap_setCell _ _ _ _ ha)
theorem MapFn.drew (h : MapFn w P k b n G) : MapFn w.drew P k b n G := h.same rfl

/-- 'm[k]': the value at the key, or the zero value. -/
theorem MapFn.look {t e : TypeId} (h : MapFn w P k b n G) (K : Keyed P k) (ht : P.underlying t = some (.map k e)) {z : Value} (hz : (zeroValue e).run P w = .ok z w) {key : Value} {kl : Lit} (hkey : keyOf P k key = some kl) :
    (Instr.lookup t (.map (some b)) key false).run P w = .ok ((G kl).getD z) w := by
  obtain ⟨D, ⟨es, clock, hb, F, hs, rfl⟩, h2⟩ := h
  rcases Maps.fit_look false K ht hz hb F hkey with ⟨hrun, _, hat⟩ | ⟨e0, y, _, _, hrun, hRv, hat, _⟩
  · have h3 := h2 kl .nil
    have h4 := h2 kl (.agg [])
    rw [hat] at h3 h4
    cases hG : G kl with
    | none => simpa using hrun
    | some v => rw [hG] at h3; cases h3
  · have h3 := h2 kl .nil
    rw [hat] at h3
    cases hG : G kl with
    | none => rw [hG] at h3; simp only [rawElem, Option.some.injEq] at hRv; rw [← hRv] at h3; cases h3
    | some v => 
      rw [hG] at h3
      simp only [rawElem, Option.some.injEq] at hRv
      rw [← hRv] at h3
      cases h3
      simpa using hrun

/-- 'v, ok := m[k]'. -/
theorem MapFn.lookOk {t e : TypeId} (h : MapFn w P k b n G) (K : Keyed P k) (ht : P.underlying t = some (.map k e)) {z : Value} (hz : (zeroValue e).run P w = .ok z w) {key : Value} {kl : Lit} (hkey : keyOf P k key = some kl) :
    (Instr.lookup t (.map (some b)) key true).run P w = .ok (.tuple #[(G kl).getD z, .bool (G kl).isSome]) w := by
  obtain ⟨D, ⟨es, clock, hb, F, hs, rfl⟩, h2⟩ := h
  rcases Maps.fit_look true K ht hz hb F hkey with ⟨hrun, _, hat⟩ | ⟨e0, y, _, _, hrun, hRv, hat, _⟩
  · have h3 := h2 kl .nil
    rw [hat] at h3
    cases hG : G kl with
    | none => simpa using hrun
    | some v => rw [hG] at h3; cases h3
  · have h3 := h2 kl .nil
    rw [hat] at h3
    simp only [rawElem, Option.some.injEq] at hRv
    cases hG : G kl with
    | none => rw [hG] at h3; rw [← hRv] at h3; cases h3
    | some v => 
      rw [hG] at h3
      rw [← hRv] at h3
      cases h3
      simpa using hrun

/-- 'm[k] = v'. -/
theorem MapFn.put {t e : TypeId} (h : MapFn w P k b n G) (K : Keyed P k) (ht : P.underlying t = some (.map k e)) (hn : n < maxLen) {key val : Value} {kl : Lit} (hkey : keyOf P k key = some kl) :
    ∃ w', (Instr.mapUpdate t (.map (some b)) key val).run P w = .ok () w' ∧ MapFn w' P k b (n + 1) (putFn G kl val) ∧ w.grownBy w' (some b) := by
  obtain ⟨D, h1, h2⟩ := h
  obtain ⟨w', hrun, h3, h4⟩ := h1.update K ht hn hkey (val := val) (d := .held val) (ps := []) rfl
  refine ⟨w', hrun, ⟨_, h3, fun x z => ?_⟩, h4⟩
  unfold putFn
  by_cases hx : x = kl
  · subst hx; rw [if_pos rfl, atKey_put_same h1.isMap (K.key hkey)]; rfl
  · rw [if_neg hx, atKey_put_other hx]; exact h2 x z

section
variable {ops : Array Oper} {rest : List Oper} {o : Oper} {a : Act} {Q : Exit → Act → World → Prop}
theorem wpList_lookup_fn (w : World) (hg : o.guard = none) (m x : Operand) (t : TypeId) (hop : o.op = Op.lookup t m x false) (k e : TypeId) (K : Keyed P k) (ht : P.underlying t = some (.map k e)) (z : Value) (hz : (zeroValue e).run P w = .ok z w)
    (b n : Nat) (G : Lit → Option Value) (hm : a.eval m = .map (some b)) (hown : MapFn w P k b n G) (key : Value) (kl : Lit) (hx : a.eval x = key) (hkey : keyOf P k key = some kl)
    (hK : wpList P ops Q rest (a.put o.dst ((G kl).getD z)) w) : wpList P ops Q (o :: rest) a w := by
  refine wpList_plain hg fun K' hK' => ?_
  have hrun := hown.look K ht hz hkey
  unfold Oper.wp
  simp [execOp, hop, hm, hx, hrun, Result.andThen]
  exact hK' _ _ hK
theorem wpList_lookupOk_fn (w : World) (hg : o.guard = none) (m x : Operand) (t : TypeId) (hop : o.op = Op.lookup t m x true) (k e : TypeId) (K : Keyed P k) (ht : P.underlying t = some (.map k e)) (z : Value) (hz : (zeroValue e).run P w = .ok z w)
    (b n : Nat) (G : Lit → Option Value) (hm : a.eval m = .map (some b)) (hown : MapFn w P k b n G) (key : Value) (kl : Lit) (hx : a.eval x = key) (hkey : keyOf P k key = some kl)
    (hK : wpList P ops Q rest (a.put o.dst (.tuple #[(G kl).getD z, .bool (G kl).isSome])) w) : wpList P ops Q (o :: rest) a w := by
  refine wpList_plain hg fun K' hK' => ?_
  have hrun := hown.lookOk K ht hz hkey
  unfold Oper.wp
  simp [execOp, hop, hm, hx, hrun, Result.andThen]
  exact hK' _ _ hK
theorem wpList_put_fn (w : World) (hg : o.guard = none) (m x v : Operand) (t : TypeId) (hop : o.op = Op.mapUpdate t m x v) (k e : TypeId) (K : Keyed P k) (ht : P.underlying t = some (.map k e))
    (b n : Nat) (G : Lit → Option Value) (hm : a.eval m = .map (some b)) (hown : MapFn w P k b n G) (hn : n < maxLen) (key val : Value) (kl : Lit) (hx : a.eval x = key) (hv : a.eval v = val) (hkey : keyOf P k key = some kl)
    (hK : ∀ w', MapFn w' P k b (n + 1) (putFn G kl val) → w.grownBy w' (some b) → wpList P ops Q rest (a.put o.dst undef) w') : wpList P ops Q (o :: rest) a w := by
  refine wpList_plain hg fun K' hK' => ?_
  obtain ⟨w', hrun, r1, r2⟩ := hown.put K ht hn hkey (val := val)
  unfold Oper.wp
  simp [execOp, hop, hm, hx, hv, hrun, Result.andThen]
  exact hK' _ _ (hK w' r1 r2)
end
theorem grown_of_below {w w' : World} (h : Below w.heap.size w w') : w.grownBy w' none := ⟨h.os, h.tape, h.output, h.size, fun k hk _ => h.block k hk⟩
theorem mapFn_heap {w : World} {P : Program} {k : TypeId} {b n : Nat} {G : Lit → Option Value} (h : MapFn w P k b n G) : ∃ es clock, w.heap[b]? = some (.map es clock) := by
  obtain ⟨D, ⟨es, clock, h1, _⟩, _⟩ := h
  exact ⟨es, clock, h1⟩
theorem size_le {H : Type} {w : World} {P : Program} {k : TypeId} {R : Value → Option (DataW H × List MemPlace)} {b n : Nat} {D : DataW H} (h : w.ownsMap P k R b n D) : Maps.size D ≤ n := by
  obtain ⟨es, clock, hb, F, hs, rfl⟩ := h
  simpa [Maps.size, length_sorted] using hs
theorem has_some {D : DataW Value} {G : Lit → Option Value} (hat : ∀ kl z, D.atKey kl z = gotAt (G kl) z) (kl : Lit) : has D kl = (G kl).isSome := by
  cases hg : G kl with
  | none => rw [has_false_of_atKey (fun z => by rw [hat, hg]; rfl)]; rfl
  | some v => rw [has_true_of_atKey (y := .held v) (fun z => by rw [hat, hg]; rfl)]; rfl
theorem got_some {D : DataW Value} {G : Lit → Option Value} (hat : ∀ kl z, D.atKey kl z = gotAt (G kl) z) {kl : Lit} {v : Value} (h : ∀ zd, D.atKey kl zd = .held v) : G kl = some v := by
  have h1 := (hat kl .nil).symm.trans (h .nil)
  cases hg : G kl with
  | none => rw [hg] at h1; cases h1
  | some u => rw [hg] at h1; cases h1; rfl
theorem intKeyShape (key : Value) (kl : Lit) (h : keyOf Tryz.prog 3 key = some kl) : ∃ x : Int, key = Value.int .i64 x := by
  obtain ⟨z, rfl, _⟩ := Go.Maps.keyOf_int_inv Tryz.underlying3 h; exact ⟨z, rfl⟩
theorem rawShape (v : Value) (y : DataW Value × List MemPlace) (_ : rawElem v = some y) : ∃ c : Value, v = (fun u : Value => u) c := ⟨v, rfl⟩
theorem own_below {w w' : World} {base : Nat} {e : TypeId} {size : Nat} {v : Value} {n : Nat} {xs : List Value} (h : w.ownsRow base e size v n xs) (hb : Below w.heap.size w w') : w'.ownsRow base e size v n xs := by
  refine ⟨h.1, ?_⟩
  rcases h.2 with h0 | ⟨g, cap, cur, h1, h2, h3, h4⟩
  · exact .inl h0
  · exact .inr ⟨g, cap, cur, h1, h2, (hb.block g (Array.getElem?_eq_some_iff.1 h3).1).trans h3, h4⟩
theorem grown_none (w : World) (row : Option Nat) : w.grownBy w row := ⟨rfl, rfl, rfl, Nat.le_refl _, fun _ _ _ => rfl⟩
theorem run_append_opt {P : Program} (w : World) (t ty : TypeId) (base : Nat) (e : TypeId) (i : TypeInfo) (z : Value) (size bytes : Nat) (ht : P.underlying t = some (.slice e)) (hi : P.info? e = some i) (hz : i.zero = some z)
    (hsize : i.size = size) (hby : i.bytes = bytes) (hzs : z.cells.size = size) (hsz : 0 < size)
    (v : Value) (n : Nat) (xs : List Value) (hown : w.ownsRow base e size v n xs)
    (A : Option Addr) (m c : Nat) (news : List Value) (hA : A = none → m = 0 ∧ c = 0) (hl : news.length = m * size) (hnews : ∀ ad, A = some ad → ∀ j u, news[j]? = some u → w.cell? (ad.add j) = some u) (h1 : ∀ u ∈ news, u.oneCell' = true)
    (h63 : n + m ≤ maxLen) (hbytes : (n + m) * bytes ≤ 140737488355328) (hbase : base ≤ w.heap.size) :
    ∃ v' w', (Builtin.append_ #[t, t] ty #[v, .slice A m c]).run P w = .ok v' w' ∧ w'.ownsRow base e size v' (n + m) (xs ++ news) ∧ w.grownBy w' v.ownBlock ∧ (v'.ownBlock = v.ownBlock ∨ v'.ownBlock = some w.heap.size) := by
  cases A with
  | none =>
    obtain ⟨rfl, rfl⟩ := hA rfl
    obtain rfl : news = [] := List.eq_nil_of_length_eq_zero (by simpa using hl)
    refine ⟨v, w, run_append_owned_none (w := w) base t ty e i size ht hi v n xs hown, by simpa using hown, grown_none w _, .inl rfl⟩
  | some ad =>
    obtain ⟨v', w', hr, h2, h3, _, h5⟩ := run_append_own_at (P := P) w base t ty e i z size bytes ht hi hz hsize hby hzs hsz v n xs hown ad m c news hl (hnews ad rfl) h1 h63 hbytes hbase
    exact ⟨v', w', hr, h2, h3, h5⟩
/-- At a step of a region that draws. -/
theorem step_append_opt {P : Program} {w : World} {ops : Array Oper} {o : Oper} {a : Act} {K : Act → World → Prop} {Q : Exit → Act → World → Prop} {E : Prop} (hgd : o.guard = none) (s x : Operand) (t : TypeId)
    (ho : o.op = .call { callee := .builtin .append, args := #[s, x], argTypes := #[t, t] })
    (base : Nat) (e : TypeId) (i : TypeInfo) (z : Value) (size bytes : Nat) (ht : P.underlying t = some (.slice e)) (hi : P.info? e = some i) (hz : i.zero = some z)
    (hsize : i.size = size) (hby : i.bytes = bytes) (hzs : z.cells.size = size) (hsz : 0 < size)
    (v : Value) (n : Nat) (xs : List Value) (hs : a.eval s = v) (hown : w.ownsRow base e size v n xs)
    (A : Option Addr) (m c : Nat) (news : List Value) (hx : a.eval x = .slice A m c) (hA : A = none → m = 0 ∧ c = 0) (hl : news.length = m * size) (hnews : ∀ ad, A = some ad → ∀ j u, news[j]? = some u → w.cell? (ad.add j) = some u) (h1 : ∀ u ∈ news, u.oneCell' = true)
    (h63 : n + m ≤ maxLen) (hbytes : (n + m) * bytes ≤ 140737488355328) (hbase : base ≤ w.heap.size)
    (h : ∀ v' w', w'.ownsRow base e size v' (n + m) (xs ++ news) → w.grownBy w' v.ownBlock → (v'.ownBlock = v.ownBlock ∨ v'.ownBlock = some w.heap.size) → K (a.put o.dst v') w') :
    if Region.wanted o (yielded ops a.tmps) = true then Oper.wp P o a w K Q else E := by
  have hw : Region.wanted o (yielded ops a.tmps) = true := by simp [Region.wanted, hgd]
  rw [if_pos hw]
  obtain ⟨v', w', hr, h2, h3, h4⟩ := run_append_opt (P := P) w t o.type base e i z size bytes ht hi hz hsize hby hzs hsz v n xs hown A m c news hA hl hnews h1 h63 hbytes hbase
  unfold Oper.wp execOp
  simp only [ho, resolve, invoke, builtin, Sem.run_bind, Sem.run_pure, Result.andThen_ok, List.map_toArray, List.map_cons, List.map_nil, hs, hx, hr]
  exact h v' w' h2 h3 h4
/-- At the list of a plain region's operations. -/
theorem wpList_append_opt {P : Program} {w : World} {ops : Array Oper} {rest : List Oper} {o : Oper} {a : Act} {Q : Exit → Act → World → Prop} (hgd : o.guard = none) (s x : Operand) (t : TypeId)
    (ho : o.op = .call { callee := .builtin .append, args := #[s, x], argTypes := #[t, t] })
    (base : Nat) (e : TypeId) (i : TypeInfo) (z : Value) (size bytes : Nat) (ht : P.underlying t = some (.slice e)) (hi : P.info? e = some i) (hz : i.zero = some z)
    (hsize : i.size = size) (hby : i.bytes = bytes) (hzs : z.cells.size = size) (hsz : 0 < size)
    (v : Value) (n : Nat) (xs : List Value) (hs : a.eval s = v) (hown : w.ownsRow base e size v n xs)
    (A : Option Addr) (m c : Nat) (news : List Value) (hx : a.eval x = .slice A m c) (hA : A = none → m = 0 ∧ c = 0) (hl : news.length = m * size) (hnews : ∀ ad, A = some ad → ∀ j u, news[j]? = some u → w.cell? (ad.add j) = some u) (h1 : ∀ u ∈ news, u.oneCell' = true)
    (h63 : n + m ≤ maxLen) (hbytes : (n + m) * bytes ≤ 140737488355328) (hbase : base ≤ w.heap.size)
    (h : ∀ v' w', w'.ownsRow base e size v' (n + m) (xs ++ news) → w.grownBy w' v.ownBlock → (v'.ownBlock = v.ownBlock ∨ v'.ownBlock = some w.heap.size) → wpList P ops Q rest (a.put o.dst v') w') :
    wpList P ops Q (o :: rest) a w := by
  refine wpList_plain hgd fun K hK => ?_
  obtain ⟨v', w', hr, h2, h3, h4⟩ := run_append_opt (P := P) w t o.type base e i z size bytes ht hi hz hsize hby hzs hsz v n xs hown A m c news hA hl hnews h1 h63 hbytes hbase
  unfold Oper.wp execOp
  simp only [ho, resolve, invoke, builtin, Sem.run_bind, Sem.run_pure, Result.andThen_ok, List.map_toArray, List.map_cons, List.map_nil, hs, hx, hr]
  exact hK _ _ (h v' w' h2 h3 h4)
theorem run_append_len {P : Program} (w : World) (t ty : TypeId) (base : Nat) (e : TypeId) (i : TypeInfo) (z : Value) (size bytes : Nat) (ht : P.underlying t = some (.slice e)) (hi : P.info? e = some i) (hz : i.zero = some z)
    (hsize : i.size = size) (hby : i.bytes = bytes) (hzs : z.cells.size = size) (hsz : 0 < size)
    (v : Value) (n : Nat) (xs : List Value) (hown : w.ownsRow base e size v n xs)
    (ad : Addr) (m c : Nat) (news : List Value) (hl : news.length = m * size) (hnews : ∀ j u, news[j]? = some u → w.cell? (ad.add j) = some u) (h1 : ∀ u ∈ news, u.oneCell' = true)
    (hm : 0 < n + m) (h63 : n + m ≤ maxLen) (hbytes : (n + m) * bytes ≤ 140737488355328) (hbase : base ≤ w.heap.size) :
    ∃ g cap w', (Builtin.append_ #[t, t] ty #[v, .slice (some ad) m c]).run P w = .ok (.slice (some ⟨g, 0, none⟩) (n + m) cap) w' ∧
      w'.ownsRow base e size (.slice (some ⟨g, 0, none⟩) (n + m) cap) (n + m) (xs ++ news) ∧ w.grownBy w' v.ownBlock ∧ (v.ownBlock = some g ∨ g = w.heap.size) ∧ base ≤ g ∧ g < w'.heap.size := by
  obtain ⟨v', w', hr, h2, h3, _, h5⟩ := run_append_own_at (P := P) w base t ty e i z size bytes ht hi hz hsize hby hzs hsz v n xs hown ad m c news hl hnews h1 h63 hbytes hbase
  obtain ⟨g, cap, rfl, hbg, hlt⟩ := h2.form hm
  refine ⟨g, cap, w', hr, h2, h3, ?_, hbg, hlt⟩
  rcases h5 with h5 | h5
  · exact .inl (by rw [← h5]; rfl)
  · exact .inr (by simpa [Value.ownBlock] using h5)
/-- What an append leaves whose outcome has an element at least: at a step of a region that draws. -/
theorem step_append_len {P : Program} {w : World} {ops : Array Oper} {o : Oper} {a : Act} {K : Act → World → Prop} {Q : Exit → Act → World → Prop} {E : Prop} (hgd : o.guard = none) (s x : Operand) (t : TypeId)
    (ho : o.op = .call { callee := .builtin .append, args := #[s, x], argTypes := #[t, t] })
    (base : Nat) (e : TypeId) (i : TypeInfo) (z : Value) (size bytes : Nat) (ht : P.underlying t = some (.slice e)) (hi : P.info? e = some i) (hz : i.zero = some z)
    (hsize : i.size = size) (hby : i.bytes = bytes) (hzs : z.cells.size = size) (hsz : 0 < size)
    (v : Value) (n : Nat) (xs : List Value) (hs : a.eval s = v) (hown : w.ownsRow base e size v n xs)
    (ad : Addr) (m c : Nat) (news : List Value) (hx : a.eval x = .slice (some ad) m c) (hl : news.length = m * size) (hnews : ∀ j u, news[j]? = some u → w.cell? (ad.add j) = some u) (h1 : ∀ u ∈ news, u.oneCell' = true)
    (hm : 0 < n + m) (h63 : n + m ≤ maxLen) (hbytes : (n + m) * bytes ≤ 140737488355328) (hbase : base ≤ w.heap.size)
    (h : ∀ g cap w', w'.ownsRow base e size (.slice (some ⟨g, 0, none⟩) (n + m) cap) (n + m) (xs ++ news) → w.grownBy w' v.ownBlock → (v.ownBlock = some g ∨ g = w.heap.size) → base ≤ g → g < w'.heap.size → K (a.put o.dst (.slice (some ⟨g, 0, none⟩) (n + m) cap)) w') :
    if Region.wanted o (yielded ops a.tmps) = true then Oper.wp P o a w K Q else E := by
  have hw : Region.wanted o (yielded ops a.tmps) = true := by simp [Region.wanted, hgd]
  rw [if_pos hw]
  obtain ⟨g, cap, w', hr, h2, h3, h4, h5, h6⟩ := run_append_len (P := P) w t o.type base e i z size bytes ht hi hz hsize hby hzs hsz v n xs hown ad m c news hl hnews h1 hm h63 hbytes hbase
  unfold Oper.wp execOp
  simp only [ho, resolve, invoke, builtin, Sem.run_bind, Sem.run_pure, Result.andThen_ok, List.map_toArray, List.map_cons, List.map_nil, hs, hx, hr]
  exact h g cap w' h2 h3 h4 h5 h6
theorem own_none {w : World} {base : Nat} {e : TypeId} {size n c : Nat} {A : Option Addr} {xs : List Value} (h : w.ownsRow base e size (.slice A n c) n xs) : A = none → n = 0 ∧ c = 0 := fun hA => by
  subst hA
  rcases h.2 with ⟨h1, h2⟩ | ⟨g, cap, cur, h1, _⟩
  · injection h1 with _ _ h3
    exact ⟨h2, h3⟩
  · cases h1
theorem own_empty (W : World) (t : TypeId) (size B : Nat) (hB : B ≤ W.heap.size) : (W.alloc (.cells #[] t)).ownsRow B t size (.slice (some ⟨W.heap.size, 0, none⟩) 0 0) 0 [] :=
  ⟨by simp, .inr ⟨W.heap.size, 0, #[], rfl, hB, heap_alloc_new _ _, Nat.le_refl _, by simp [maxLen], by simp, by simp⟩⟩
/-- The worlds that come of W by draws and new blocks behind it. -/
def Grown (W : World) : Type := {V : World // ∃ q os, V = Sort.grow (W.drewN q) os}
theorem Grown.zero (W : World) : ∃ q os, W = Sort.grow (W.drewN q) os := ⟨0, #[], by rw [Sort.grow_empty]; rfl⟩
instance (W : World) : Nonempty (Grown W) := ⟨⟨W, Grown.zero W⟩⟩
theorem Grown.trans {W V U : World} (h : ∃ q os, V = Sort.grow (W.drewN q) os) (k : ∃ q os, U = Sort.grow (V.drewN q) os) : ∃ q os, U = Sort.grow (W.drewN q) os := by
  obtain ⟨q, os, rfl⟩ := h
  obtain ⟨q', os', rfl⟩ := k
  refine ⟨q + q', os ++ os', ?_⟩
  rw [← Sort.grow_grow]
  show Sort.grow (Sort.grow ((W.drewN q).drewN q') os) os' = _
  rw [show (W.drewN q).drewN q' = W.drewN (q + q') by simp [World.drewN, Nat.add_assoc]]
theorem Grown.alloc (W : World) (o : Obj) : ∃ q os, W.alloc o = Sort.grow (W.drewN q) os := ⟨0, #[o], by rw [Sort.alloc_eq_grow]; rfl⟩
theorem Grown.drew (W : World) : ∃ q os, W.drew = Sort.grow (W.drewN q) os := ⟨1, #[], by rw [Sort.grow_empty]; rfl⟩
theorem Grown.cell {W : World} {b o : Nat} {v : Value} (h : W.cell? ⟨b, o, none⟩ = some v) (hb : b < W.heap.size) (x : Grown W) : x.val.cell? ⟨b, o, none⟩ = some v := by
  obtain ⟨V, q, os, rfl⟩ := x
  exact (Sort.cell?_grow (W.drewN q) os ⟨b, o, none⟩ hb).trans h
theorem Grown.cells {W : World} {g : Nat} {cs : Array Value} (h : ∀ i, W.cell? ⟨g, i, none⟩ = cs[i]?) (hb : g < W.heap.size) (x : Grown W) (i : Nat) : x.val.cell? ⟨g, i, none⟩ = cs[i]? := by
  obtain ⟨V, q, os, rfl⟩ := x
  exact (Sort.cell?_grow (W.drewN q) os ⟨g, i, none⟩ hb).trans (h i)
theorem grown_of {P : Program} {f : FuncId} {args : Array Value} {W : World} (x : Grown W) {v : Value} (h : Calls P f args x.val fun e w' => e = .returned v ∧ ∃ q os, w' = Sort.grow (x.val.drewN q) os) :
    Calls P f args x.val fun e w' => e = .returned v ∧ ∃ y : Grown W, w' = y.val :=
  h.mono fun _ w' ⟨he, hw⟩ => ⟨he, ⟨w', Grown.trans x.property hw⟩, rfl⟩

end Go.Proofs.YtpahcbhikmfamaaGreat

namespace Go.Proofs.YtpahcbhikmfamaaGreat
open Go.RowKit Go.Maps

section
variable {α : Type}
/-- The slice at A holds l, n cells each, below block B. -/
def Flat (n : Nat) (f : α → List Value) (w : World) (B : Nat) (A : Option Addr) (l : List α) : Prop :=
  ∀ k, (h : k < l.length) → ∃ b off, A = some ⟨b, off, none⟩ ∧ b < B ∧ ∀ i, i < n → w.cell? ⟨b, off + k * n + i, none⟩ = (f l[k])[i]?
variable {n : Nat} {f : α → List Value} {w w' : World} {B B' : Nat} {A : Option Addr} {l : List α}
theorem Flat.below (h : Flat n f w B A l) (hb : Below B w w') : Flat n f w' B A l := fun k hk => by
  obtain ⟨b, off, e, h1, h2⟩ := h k hk
  exact ⟨b, off, e, h1, fun i hi => (hb.cell (p := ⟨b, off + k * n + i, none⟩) h1).trans (h2 i hi)⟩
theorem Flat.more (h : Flat n f w B A l) (hB : B ≤ B') : Flat n f w B' A l := fun k hk => by
  obtain ⟨b, off, e, h1, h2⟩ := h k hk
  exact ⟨b, off, e, by omega, h2⟩
theorem Flat.later (h : Flat n f w w.heap.size A l) (hb : Below w.heap.size w w') : Flat n f w' w'.heap.size A l := (h.below hb).more hb.size
theorem Flat.none_ (h : Flat n f w B none l) : l.length = 0 := by
  rcases Nat.eq_zero_or_pos l.length with e | e
  · exact e
  · obtain ⟨_, _, he, _⟩ := h 0 e; cases he
theorem Flat.nil (n : Nat) (f : α → List Value) (w : World) (B : Nat) (A : Option Addr) : Flat n f w B A [] := fun k hk => by simp at hk
theorem flat_get {f : α → List Value} {n : Nat} (hn : ∀ x, (f x).length = n) : ∀ (l : List α) (k : Nat) (h : k < l.length) (i : Nat), i < n → (l.flatMap f)[k * n + i]? = (f l[k])[i]?
  | x :: l, 0, _, i, hi => by
    rw [show (x :: l).flatMap f = f x ++ l.flatMap f from rfl, Nat.zero_mul, Nat.zero_add, List.getElem?_append_left (by rw [hn]; exact hi)]
    rfl
  | x :: l, k + 1, h, i, hi => by
    have e : (k + 1) * n + i - (f x).length = k * n + i := by rw [hn, Nat.succ_mul]; omega
    rw [show (x :: l).flatMap f = f x ++ l.flatMap f from rfl, List.getElem?_append_right (by rw [hn, Nat.succ_mul]; omega), e]
    exact flat_get hn l k (by simpa using h) i hi
theorem flat_len {f : α → List Value} {n : Nat} (hn : ∀ x, (f x).length = n) : ∀ l : List α, (l.flatMap f).length = l.length * n
  | [] => by simp
  | x :: l => by
    rw [show (x :: l).flatMap f = f x ++ l.flatMap f from rfl, List.length_append, flat_len hn l, List.length_cons, hn, Nat.succ_mul]; omega
theorem flat_ones {f : α → List Value} (h1 : ∀ x, ∀ u ∈ f x, u.oneCell' = true) (l : List α) : ∀ u ∈ l.flatMap f, u.oneCell' = true := fun u hu => by
  obtain ⟨x, _, hu⟩ := List.mem_flatMap.1 hu
  exact h1 x u hu
theorem Flat.news (hn : ∀ x, (f x).length = n) (h0 : 0 < n) (h : Flat n f w B A l) : ∀ ad, A = some ad → ∀ j u, (l.flatMap f)[j]? = some u → w.cell? (ad.add j) = some u := fun ad e j u hj => by
  obtain ⟨q, i, hi, rfl⟩ : ∃ q i, i < n ∧ j = q * n + i := ⟨j / n, j % n, Nat.mod_lt _ h0, by rw [Nat.mul_comm]; exact (Nat.div_add_mod j n).symm⟩
  have hq : q < l.length := by
    have h3 := (List.getElem?_eq_some_iff.1 hj).1
    rw [flat_len hn] at h3
    rcases Nat.lt_or_ge q l.length with h4 | h4
    · exact h4
    · have := Nat.mul_le_mul_right n h4; omega
  obtain ⟨b, off, he, _, hc⟩ := h q hq
  rw [e] at he; cases he
  rw [WideShapes.add_plain, ← Nat.add_assoc, hc i hi]
  rw [flat_get hn l q hq i hi] at hj
  exact hj
theorem Flat.of_own (hn : ∀ x, (f x).length = n) (_h0 : 0 < n) {W : World} {base : Nat} {A : Option Addr} {c : Nat} {t : TypeId} (h : W.ownsRow base t n (.slice A l.length c) l.length (l.flatMap f)) : Flat n f W W.heap.size A l := fun k hk => by
  obtain ⟨g, cap, hv, hb, hlt⟩ := h.form (by omega)
  simp only [Value.slice.injEq, true_and] at hv
  obtain ⟨rfl, rfl⟩ := hv
  refine ⟨g, 0, rfl, hlt, fun i hi => ?_⟩
  have hm : k * n + i < l.length * n := by
    have := Nat.mul_le_mul_right n (show k + 1 ≤ l.length from hk)
    rw [Nat.succ_mul] at this; omega
  rw [Nat.zero_add, h.cellAt (k * n + i) hm, flat_get hn l k hk i hi]
end

/-! The data. -/
structure Scl where
  cuts : List Int
  pts : List Int
  non : Int
structure Crd where
  weight : Int
  base : Int
  scales : List Scl
structure Nod where
  tr : Int
  cut : Int
  low : Int
  high : Int
  pts : Int
structure Tre where
  weight : Int
  nodes : List Nod
structure Mdl where
  traits : Int
  cards : List Crd
  trees : List Tre
  need : Int
instance : Inhabited Scl := ⟨⟨[], [], 0⟩⟩
instance : Inhabited Nod := ⟨⟨0, 0, 0, 0, 0⟩⟩

def inN (n lo hi : Int) : Bool := decide (lo ≤ n) && decide (n ≤ hi)
theorem inN_iff {n lo hi : Int} : inN n lo hi = true ↔ lo ≤ n ∧ n ≤ hi := by simp [inN]
def ptB (n : Int) : Bool := inN n (-1000000) 1000000
def rangeB (n : Nat) (p : Nat → Bool) : Bool := (List.range n).all p
theorem rangeB_iff {n : Nat} {p : Nat → Bool} : rangeB n p = true ↔ ∀ i, i < n → p i = true := by simp [rangeB]
theorem rangeB_stop {n : Nat} {p : Nat → Bool} {i : Nat} (hi : i < n) (h : p i = false) : rangeB n p = false := by
  cases hr : rangeB n p with
  | false => rfl
  | true => rw [rangeB_iff.1 hr i hi] at h; cases h
/-- Whether cut i is above the one before. -/
def cutB (l : List Int) (i : Nat) : Bool := inN (l.getD i 0) ((if i = 0 then 0 else l.getD (i - 1) 0) + 1) 1000000
def cutsB (l : List Int) : Bool := rangeB l.length (cutB l)
def sclB (s : Scl) : Bool := decide (s.cuts.length ≤ 3) && decide (s.pts.length = s.cuts.length + 1) && ptB s.non && cutsB s.cuts && s.pts.all ptB
def crdB (traits : Int) (c : Crd) : Bool := inN c.weight 0 1000 && ptB c.base && decide ((c.scales.length : Int) = traits) && c.scales.all sclB
/-- Whether node i of n is one. -/
def nodB (n : Nat) (traits : Int) (i : Nat) (x : Nod) : Bool :=
  if x.tr = -1 then decide (x.cut = 0) && decide (x.low = 0) && decide (x.high = 0) && ptB x.pts
  else inN x.tr 0 (traits - 1) && inN x.cut 1 1000000 && inN x.low (i + 1) (n - 1) && inN x.high (i + 1) (n - 1) && decide (x.low ≠ x.high) && decide (x.pts = 0)
def treB (traits : Int) (t : Tre) : Bool := inN t.weight 0 1000 && inN t.nodes.length 1 7 && rangeB t.nodes.length fun i => nodB t.nodes.length traits i (t.nodes.getD i default)
def mdlB (m : Mdl) : Bool := inN m.traits 1 5 && ptB m.need && decide (m.cards.length ≤ 2) && decide (m.trees.length ≤ 2) && m.cards.all (crdB m.traits) && m.trees.all (treB m.traits)
def mdlE (m : Mdl) : Int := if mdlB m = true then 0 else 60
def valB (v : Int) : Bool := inN v (-1) 1000000
def valsB (traits : Int) (x : List Int) : Bool := decide ((x.length : Int) = traits) && x.all valB
def forE (m : Mdl) (x : List Int) : Int := if mdlB m = true then (if valsB m.traits x = true then 0 else 61) else 60

theorem getD_lt {α : Type} (l : List α) (d : α) {k : Nat} (h : k < l.length) : l.getD k d = l[k] := by simp [h]

/-! Points. -/
def cntLe (cuts : List Int) (v : Int) : Nat := (cuts.filter fun c => decide (c ≤ v)).length
def onScl (s : Scl) (v : Int) : Int := if v = -1 then s.non else s.pts.getD (cntLe s.cuts v) 0
/-- The points of the first k scales. -/
def sclsUp (scales : List Scl) (x : List Int) : Nat → Int
  | 0 => 0
  | k + 1 => sclsUp scales x k + onScl (scales.getD k default) (x.getD k 0)
def onCrd (c : Crd) (x : List Int) : Int := c.base + sclsUp c.scales x c.scales.length
def treGo (nodes : List Nod) (x : List Int) : Nat → Nat → Int
  | 0, _ => 0
  | f + 1, a => if (nodes.getD a default).tr = -1 then (nodes.getD a default).pts else if x.getD (nodes.getD a default).tr.toNat 0 < (nodes.getD a default).cut then treGo nodes x f (nodes.getD a default).low.toNat else treGo nodes x f (nodes.getD a default).high.toNat
def onTre (t : Tre) (x : List Int) : Int := treGo t.nodes x t.nodes.length 0
def ptsL (m : Mdl) (x : List Int) : List Int := (m.cards.map fun c => onCrd c x) ++ (m.trees.map fun t => onTre t x)
def sumL : List Int → Int
  | [] => 0
  | x :: l => x + sumL l
def scoreM (m : Mdl) (x : List Int) : Int := sumL ((m.cards.map fun c => c.weight * onCrd c x) ++ (m.trees.map fun t => t.weight * onTre t x))
theorem sumL_append : ∀ a b : List Int, sumL (a ++ b) = sumL a + sumL b
  | [], b => by simp [sumL]
  | x :: a, b => by rw [List.cons_append, sumL, sumL_append a b, sumL]; omega
theorem sumL_snoc (a : List Int) (x : Int) : sumL (a ++ [x]) = sumL a + x := by rw [sumL_append]; simp [sumL]

/-! The bounds. -/
theorem ptB_iff {n : Int} : ptB n = true ↔ -1000000 ≤ n ∧ n ≤ 1000000 := inN_iff
theorem cntLe_le (cuts : List Int) (v : Int) : cntLe cuts v ≤ cuts.length := List.length_filter_le _ _
theorem sclB_iff {s : Scl} : sclB s = true ↔ s.cuts.length ≤ 3 ∧ s.pts.length = s.cuts.length + 1 ∧ ptB s.non = true ∧ cutsB s.cuts = true ∧ ∀ p ∈ s.pts, ptB p = true := by
  simp only [sclB, Bool.and_eq_true, decide_eq_true_eq, List.all_eq_true]
  constructor
  · rintro ⟨⟨⟨⟨h1, h2⟩, h3⟩, h4⟩, h5⟩; exact ⟨h1, h2, h3, h4, h5⟩
  · rintro ⟨h1, h2, h3, h4, h5⟩; exact ⟨⟨⟨⟨h1, h2⟩, h3⟩, h4⟩, h5⟩
theorem onScl_bound {s : Scl} (h : sclB s = true) (v : Int) : -1000000 ≤ onScl s v ∧ onScl s v ≤ 1000000 := by
  obtain ⟨_, h2, h3, _, h5⟩ := sclB_iff.1 h
  unfold onScl
  split
  · exact ptB_iff.1 h3
  · have hk : cntLe s.cuts v < s.pts.length := by have := cntLe_le s.cuts v; omega
    rw [getD_lt _ _ hk]
    exact ptB_iff.1 (h5 _ (List.getElem_mem hk))
theorem sclsUp_bound {l : List Scl} (h : ∀ s ∈ l, sclB s = true) (x : List Int) : ∀ k, k ≤ l.length → -(1000000 * (k : Int)) ≤ sclsUp l x k ∧ sclsUp l x k ≤ 1000000 * (k : Int)
  | 0, _ => by simp [sclsUp]
  | k + 1, hk => by
    have h1 := sclsUp_bound h x k (by omega)
    have h2 := onScl_bound (h l[k] (List.getElem_mem (by omega))) (x.getD k 0)
    have e : sclsUp l x (k + 1) = sclsUp l x k + onScl l[k] (x.getD k 0) := by rw [sclsUp, getD_lt _ _ (by omega : k < l.length)]
    rw [e]
    omega

/-! Where it lies. -/
structure SclD where
  v : Scl
  A : Option Addr
  a : Nat
  B : Option Addr
  b : Nat
structure CrdD where
  weight : Int
  base : Int
  scales : List SclD
  S : Option Addr
  s : Nat
structure TreD where
  v : Tre
  T : Option Addr
  t : Nat
structure MdlD where
  traits : Int
  cards : List CrdD
  C : Option Addr
  c : Nat
  trees : List TreD
  T : Option Addr
  t : Nat
  need : Int
instance : Inhabited SclD := ⟨⟨default, none, 0, none, 0⟩⟩
def CrdD.v (x : CrdD) : Crd := ⟨x.weight, x.base, x.scales.map SclD.v⟩
def MdlD.v (x : MdlD) : Mdl := ⟨x.traits, x.cards.map CrdD.v, x.trees.map TreD.v, x.need⟩
def intC (x : Int) : List Value := [.int .i64 x]
def sclC (x : SclD) : List Value := [.slice x.A x.v.cuts.length x.a, .slice x.B x.v.pts.length x.b, .int .i64 x.v.non]
def crdC (x : CrdD) : List Value := [.int .i64 x.weight, .int .i64 x.base, .slice x.S x.scales.length x.s]
def nodC (x : Nod) : List Value := [.int .i64 x.tr, .int .i64 x.cut, .int .i64 x.low, .int .i64 x.high, .int .i64 x.pts]
def treC (x : TreD) : List Value := [.int .i64 x.v.weight, .slice x.T x.v.nodes.length x.t]
theorem intC_len (x : Int) : (intC x).length = 1 := rfl
theorem sclC_len (x : SclD) : (sclC x).length = 3 := rfl
theorem crdC_len (x : CrdD) : (crdC x).length = 3 := rfl
theorem nodC_len (x : Nod) : (nodC x).length = 5 := rfl
theorem treC_len (x : TreD) : (treC x).length = 2 := rfl
theorem intC_one (x : Int) : ∀ u ∈ intC x, u.oneCell' = true := fun u hu => by
  simp only [intC, List.mem_cons, List.not_mem_nil, or_false] at hu
  rcases hu with rfl; rfl
theorem sclC_one (x : SclD) : ∀ u ∈ sclC x, u.oneCell' = true := fun u hu => by
  simp only [sclC, List.mem_cons, List.not_mem_nil, or_false] at hu
  rcases hu with rfl | rfl | rfl <;> rfl
theorem crdC_one (x : CrdD) : ∀ u ∈ crdC x, u.oneCell' = true := fun u hu => by
  simp only [crdC, List.mem_cons, List.not_mem_nil, or_false] at hu
  rcases hu with rfl | rfl | rfl <;> rfl
theorem nodC_one (x : Nod) : ∀ u ∈ nodC x, u.oneCell' = true := fun u hu => by
  simp only [nodC, List.mem_cons, List.not_mem_nil, or_false] at hu
  rcases hu with rfl | rfl | rfl | rfl | rfl <;> rfl
theorem treC_one (x : TreD) : ∀ u ∈ treC x, u.oneCell' = true := fun u hu => by
  simp only [treC, List.mem_cons, List.not_mem_nil, or_false] at hu
  rcases hu with rfl | rfl <;> rfl
abbrev IntsAt (w : World) (B : Nat) (A : Option Addr) (l : List Int) : Prop := Flat 1 intC w B A l
abbrev NodsAt (w : World) (B : Nat) (A : Option Addr) (l : List Nod) : Prop := Flat 5 nodC w B A l
structure SclAt (w : World) (B : Nat) (x : SclD) : Prop where
  cuts : IntsAt w B x.A x.v.cuts
  pts : IntsAt w B x.B x.v.pts
structure SclsAt (w : World) (B : Nat) (A : Option Addr) (l : List SclD) : Prop where
  row : Flat 3 sclC w B A l
  each : ∀ x ∈ l, SclAt w B x
structure CrdsAt (w : World) (B : Nat) (A : Option Addr) (l : List CrdD) : Prop where
  row : Flat 3 crdC w B A l
  each : ∀ x ∈ l, SclsAt w B x.S x.scales
structure TresAt (w : World) (B : Nat) (A : Option Addr) (l : List TreD) : Prop where
  row : Flat 2 treC w B A l
  each : ∀ x ∈ l, NodsAt w B x.T x.v.nodes
structure MdlAt (w : World) (B : Nat) (m : MdlD) : Prop where
  cards : CrdsAt w B m.C m.cards
  trees : TresAt w B m.T m.trees
section
variable {w w' : World} {B B' : Nat}
theorem SclAt.below {x : SclD} (h : SclAt w B x) (hb : Below B w w') : SclAt w' B x := ⟨h.cuts.below hb, h.pts.below hb⟩
theorem SclAt.more {x : SclD} (h : SclAt w B x) (hB : B ≤ B') : SclAt w B' x := ⟨h.cuts.more hB, h.pts.more hB⟩
theorem SclAt.later {x : SclD} (h : SclAt w w.heap.size x) (hb : Below w.heap.size w w') : SclAt w' w'.heap.size x := (h.below hb).more hb.size
theorem SclsAt.below {A : Option Addr} {l : List SclD} (h : SclsAt w B A l) (hb : Below B w w') : SclsAt w' B A l := ⟨h.row.below hb, fun x hx => (h.each x hx).below hb⟩
theorem SclsAt.more {A : Option Addr} {l : List SclD} (h : SclsAt w B A l) (hB : B ≤ B') : SclsAt w B' A l := ⟨h.row.more hB, fun x hx => (h.each x hx).more hB⟩
theorem SclsAt.later {A : Option Addr} {l : List SclD} (h : SclsAt w w.heap.size A l) (hb : Below w.heap.size w w') : SclsAt w' w'.heap.size A l := (h.below hb).more hb.size
theorem CrdsAt.below {A : Option Addr} {l : List CrdD} (h : CrdsAt w B A l) (hb : Below B w w') : CrdsAt w' B A l := ⟨h.row.below hb, fun x hx => (h.each x hx).below hb⟩
theorem CrdsAt.more {A : Option Addr} {l : List CrdD} (h : CrdsAt w B A l) (hB : B ≤ B') : CrdsAt w B' A l := ⟨h.row.more hB, fun x hx => (h.each x hx).more hB⟩
theorem CrdsAt.later {A : Option Addr} {l : List CrdD} (h : CrdsAt w w.heap.size A l) (hb : Below w.heap.size w w') : CrdsAt w' w'.heap.size A l := (h.below hb).more hb.size
theorem TresAt.below {A : Option Addr} {l : List TreD} (h : TresAt w B A l) (hb : Below B w w') : TresAt w' B A l := ⟨h.row.below hb, fun x hx => (h.each x hx).below hb⟩
theorem TresAt.more {A : Option Addr} {l : List TreD} (h : TresAt w B A l) (hB : B ≤ B') : TresAt w B' A l := ⟨h.row.more hB, fun x hx => (h.each x hx).more hB⟩
theorem TresAt.later {A : Option Addr} {l : List TreD} (h : TresAt w w.heap.size A l) (hb : Below w.heap.size w w') : TresAt w' w'.heap.size A l := (h.below hb).more hb.size
theorem MdlAt.below {m : MdlD} (h : MdlAt w B m) (hb : Below B w w') : MdlAt w' B m := ⟨h.cards.below hb, h.trees.below hb⟩
theorem MdlAt.more {m : MdlD} (h : MdlAt w B m) (hB : B ≤ B') : MdlAt w B' m := ⟨h.cards.more hB, h.trees.more hB⟩
theorem MdlAt.later {m : MdlD} (h : MdlAt w w.heap.size m) (hb : Below w.heap.size w w') : MdlAt w' w'.heap.size m := (h.below hb).more hb.size

/-! An element's cells. -/
theorem ints_at {A : Option Addr} {l : List Int} (h : IntsAt w B A l) {k : Nat} (hk : k < l.length) : ∃ b off, A = some ⟨b, off, none⟩ ∧ b < B ∧ w.cell? ⟨b, off + k, none⟩ = some (.int .i64 l[k]) := by
  obtain ⟨b, off, e, h1, h2⟩ := h k hk
  exact ⟨b, off, e, h1, by have := h2 0 (by omega); simpa [intC] using this⟩
theorem scls_at {A : Option Addr} {l : List SclD} (h : Flat 3 sclC w B A l) {k : Nat} (hk : k < l.length) : ∃ b off, A = some ⟨b, off, none⟩ ∧ b < B ∧ w.cell? ⟨b, off + k * 3, none⟩ = some (.slice l[k].A l[k].v.cuts.length l[k].a) ∧ w.cell? ⟨b, off + k * 3 + 1, none⟩ = some (.slice l[k].B l[k].v.pts.length l[k].b) ∧ w.cell? ⟨b, off + k * 3 + 2, none⟩ = some (.int .i64 l[k].v.non) := by
  obtain ⟨b, off, e, h1, h2⟩ := h k hk
  exact ⟨b, off, e, h1, h2 0 (by omega), h2 1 (by omega), h2 2 (by omega)⟩
theorem crds_at {A : Option Addr} {l : List CrdD} (h : Flat 3 crdC w B A l) {k : Nat} (hk : k < l.length) : ∃ b off, A = some ⟨b, off, none⟩ ∧ b < B ∧ w.cell? ⟨b, off + k * 3, none⟩ = some (.int .i64 l[k].weight) ∧ w.cell? ⟨b, off + k * 3 + 1, none⟩ = some (.int .i64 l[k].base) ∧ w.cell? ⟨b, off + k * 3 + 2, none⟩ = some (.slice l[k].S l[k].scales.length l[k].s) := by
  obtain ⟨b, off, e, h1, h2⟩ := h k hk
  exact ⟨b, off, e, h1, h2 0 (by omega), h2 1 (by omega), h2 2 (by omega)⟩
theorem tres_at {A : Option Addr} {l : List TreD} (h : Flat 2 treC w B A l) {k : Nat} (hk : k < l.length) : ∃ b off, A = some ⟨b, off, none⟩ ∧ b < B ∧ w.cell? ⟨b, off + k * 2, none⟩ = some (.int .i64 l[k].v.weight) ∧ w.cell? ⟨b, off + k * 2 + 1, none⟩ = some (.slice l[k].T l[k].v.nodes.length l[k].t) := by
  obtain ⟨b, off, e, h1, h2⟩ := h k hk
  exact ⟨b, off, e, h1, h2 0 (by omega), h2 1 (by omega)⟩
theorem nods_at {A : Option Addr} {l : List Nod} (h : NodsAt w B A l) {k : Nat} (hk : k < l.length) : ∃ b off, A = some ⟨b, off, none⟩ ∧ b < B ∧ w.cell? ⟨b, off + k * 5, none⟩ = some (.int .i64 l[k].tr) ∧ w.cell? ⟨b, off + k * 5 + 1, none⟩ = some (.int .i64 l[k].cut) ∧ w.cell? ⟨b, off + k * 5 + 2, none⟩ = some (.int .i64 l[k].low) ∧ w.cell? ⟨b, off + k * 5 + 3, none⟩ = some (.int .i64 l[k].high) ∧ w.cell? ⟨b, off + k * 5 + 4, none⟩ = some (.int .i64 l[k].pts) := by
  obtain ⟨b, off, e, h1, h2⟩ := h k hk
  exact ⟨b, off, e, h1, h2 0 (by omega), h2 1 (by omega), h2 2 (by omega), h2 3 (by omega), h2 4 (by omega)⟩
end
/-- Not larger than the statements look at. -/
structure SclLe (s : Scl) : Prop where
  cuts : s.cuts.length ≤ 10
  pts : s.pts.length ≤ 12
structure MdlLe (m : MdlD) : Prop where
  cards : m.cards.length ≤ 6
  trees : m.trees.length ≤ 6
  scales : ∀ c ∈ m.cards, c.scales.length ≤ 10
  scl : ∀ c ∈ m.cards, ∀ s ∈ c.scales, SclLe s.v
  nodes : ∀ t ∈ m.trees, t.v.nodes.length ≤ 20
end Go.Proofs.YtpahcbhikmfamaaGreat
