/- A map that the call itself has made, as a function from keys to the very values that lie in it, whatever the type of its elements: made, kept, asked, written; the laws at the operations. -/
import Derived.Test.YtbkmfomdhjhkpaaGreatRows
import Derived.Maps.OwnSet
namespace Go.Proofs.YtbkmfomdhjhkpaaGreat
open Go.RowKit Go.Maps

/-- An element as it lies. -/
def rawElem (v : Value) : Option (DataW Value × List MemPlace) := some (.held v, [])

/-- What is asked for at a key, and what there is. -/
def gotAt (x : Option Value) (z : DataW Value) : DataW Value := match x with | none => z | some v => .held v

/-- Block b is a map of at most n entries, with the value G kl at the key kl. -/
def MapFn (w : World) (P : Program) (k : TypeId) (b n : Nat) (G : Lit → Option Value) : Prop :=
  ∃ D, w.ownsMap P k rawElem b n D ∧ ∀ kl z, D.atKey kl z = gotAt (G kl) z

open Classical in
noncomputable def putFn (G : Lit → Option Value) (kl : Lit) (v : Value) (x : Lit) : Option Value := if x = kl then some v else G x

variable {P : Program} {k : TypeId} {w w' : World} {b n : Nat} {G : Lit → Option Value}

theorem MapFn.made (w : World) (P : Program) (k : TypeId) : MapFn (w.alloc (.map #[] 0)) P k w.heap.size 0 (fun _ => none) :=
  ⟨.map [], World.ownsMap_made _ _ _ _, fun _ _ => rfl⟩
theorem MapFn.lt (h : MapFn w P k b n G) : b < w.heap.size := let ⟨_, h1, _⟩ := h; h1.lt
theorem MapFn.mono (h : MapFn w P k b n G) {n' : Nat} (hn : n ≤ n') : MapFn w P k b n' G := let ⟨D, h1, h2⟩ := h; ⟨D, h1.mono hn, h2⟩
theorem MapFn.kept {row : Option Nat} (h : MapFn w P k b n G) (hg : w.grownBy w' row) (hne : some b ≠ row) : MapFn w' P k b n G := let ⟨D, h1, h2⟩ := h; ⟨D, h1.kept hg hne, h2⟩
theorem MapFn.same (h : MapFn w P k b n G) (hb : w'.heap[b]? = w.heap[b]?) : MapFn w' P k b n G := by
  obtain ⟨D, ⟨es, clock, h1, h2, h3, h4⟩, h5⟩ := h
  exact ⟨D, ⟨es, clock, hb.trans h1, h2, h3, h4⟩, h5⟩
theorem MapFn.below {B : Nat} (h : MapFn w P k b n G) (hb : Below B w w') (hB : b < B) : MapFn w' P k b n G := h.same (hb.block b hB)
theorem MapFn.alloc (h : MapFn w P k b n G) (o : Obj) : MapFn (w.alloc o) P k b n G := h.same (Below.heap_alloc _ _ _ h.lt)
theorem MapFn.setCell (h : MapFn w P k b n G) {a : Addr} (ha : b ≠ a.block) (u : Value) : MapFn (w.setCell a u) P k b n G := h.same (Below.heap_setCell _ _ _ _ ha)
theorem MapFn.drew (h : MapFn w P k b n G) : MapFn w.drew P k b n G := h.same rfl

/-- 'm[k]': the value at the key, or the zero value. -/
theorem MapFn.look {t e : TypeId} (h : MapFn w P k b n G) (K : Keyed P k) (ht : P.underlying t = some (.map k e)) {z : Value} (hz : (zeroValue e).run P w = .ok z w) {key : Value} {kl : Lit} (hkey : keyOf P k key = some kl) :
    (Instr.lookup t (.map (some b)) key false).run P w = .ok ((G kl).getD z) w := by
  obtain ⟨D, ⟨es, clock, hb, F, hs, rfl⟩, h2⟩ := h
  rcases Maps.fit_look false K ht hz hb F hkey with ⟨hrun, _, hat⟩ | ⟨e0, y, _, _, hrun, hRv, hat, _⟩
  · have h3 := h2 kl .nil
    have h4 := h2 kl (.agg [])
    rw [hat] at h3 h4
    cases hG : G kl with
    | none => simpa using hrun
    | some v => rw [hG] at h3; cases h3
  · have h3 := h2 kl .nil
    rw [hat] at h3
    cases hG : G kl with
    | none => rw [hG] at h3; simp only [rawElem, Option.some.injEq] at hRv; rw [← hRv] at h3; cases h3
    | some v => 
      rw [hG] at h3
      simp only [rawElem, Option.some.injEq] at hRv
      rw [← hRv] at h3
      cases h3
      simpa using hrun

/-- 'v, ok := m[k]'. -/
theorem MapFn.lookOk {t e : TypeId} (h : MapFn w P k b n G) (K : Keyed P k) (ht : P.underlying t = some (.map k e)) {z : Value} (hz : (zeroValue e).run P w = .ok z w) {key : Value} {kl : Lit} (hkey : keyOf P k key = some kl) :
    (Instr.lookup t (.map (some b)) key true).run P w = .ok (.tuple #[(G kl).getD z, .bool (G kl).isSome]) w := by
  obtain ⟨D, ⟨es, clock, hb, F, hs, rfl⟩, h2⟩ := h
  rcases Maps.fit_look true K ht hz hb F hkey with ⟨hrun, _, hat⟩ | ⟨e0, y, _, _, hrun, hRv, hat, _⟩
  · have h3 := h2 kl .nil
    rw [hat] at h3
    cases hG : G kl with
    | none => simpa using hrun
    | some v => rw [hG] at h3; cases h3
  · have h3 := h2 kl .nil
    rw [hat] at h3
    simp only [rawElem, Option.some.injEq] at hRv
    cases hG : G kl with
    | none => rw [hG] at h3; rw [← hRv] at h3; cases h3
    | some v => 
      rw [hG] at h3
      rw [← hRv] at h3
      cases h3
      simpa using hrun

/-- 'm[k] = v'. -/
theorem MapFn.put {t e : TypeId} (h : MapFn w P k b n G) (K : Keyed P k) (ht : P.underlying t = some (.map k e)) (hn : n < maxLen) {key val : Value} {kl : Lit} (hkey : keyOf P k key = some kl) :
    ∃ w', (Instr.mapUpdate t (.map (some b)) key val).run P w = .ok () w' ∧ MapFn w' P k b (n + 1) (putFn G kl val) ∧ w.grownBy w' (some b) := by
  obtain ⟨D, h1, h2⟩ := h
  obtain ⟨w', hrun, h3, h4⟩ := h1.update K ht hn hkey (val := val) (d := .held val) (ps := []) rfl
  refine ⟨w', hrun, ⟨_, h3, fun x z => ?_⟩, h4⟩
  unfold putFn
  by_cases hx : x = kl
  · subst hx; rw [if_pos rfl, atKey_put_same h1.isMap (K.key hkey)]; rfl
  · rw [if_neg hx, atKey_put_other hx]; exact h2 x z

section
variable {ops : Array Oper} {rest : List Oper} {o : Oper} {a : Act} {Q : Exit → Act → World → Prop}
theorem wpList_lookup_fn (w : World) (hg : o.guard = none) (m x : Operand) (t : TypeId) (hop : o.op = Op.lookup t m x false) (k e : TypeId) (K : Keyed P k) (ht : P.underlying t = some (.map k e)) (z : Value) (hz : (zeroValue e).run P w = .ok z w)
    (b n : Nat) (G : Lit → Option Value) (hm : a.eval m = .map (some b)) (hown : MapFn w P k b n G) (key : Value) (kl : Lit) (hx : a.eval x = key) (hkey : keyOf P k key = some kl)
    (hK : wpList P ops Q rest (a.put o.dst ((G kl).getD z)) w) : wpList P ops Q (o :: rest) a w := by
  refine wpList_plain hg fun K' hK' => ?_
  have hrun := hown.look K ht hz hkey
  unfold Oper.wp
  simp [execOp, hop, hm, hx, hrun, Result.andThen]
  exact hK' _ _ hK
theorem wpList_lookupOk_fn (w : World) (hg : o.guard = none) (m x : Operand) (t : TypeId) (hop : o.op = Op.lookup t m x true) (k e : TypeId) (K : Keyed P k) (ht : P.underlying t = some (.map k e)) (z : Value) (hz : (zeroValue e).run P w = .ok z w)
    (b n : Nat) (G : Lit → Option Value) (hm : a.eval m = .map (some b)) (hown : MapFn w P k b n G) (key : Value) (kl : Lit) (hx : a.eval x = key) (hkey : keyOf P k key = some kl)
    (hK : wpList P ops Q rest (a.put o.dst (.tuple #[(G kl).getD z, .bool (G kl).isSome])) w) : wpList P ops Q (o :: rest) a w := by
  refine wpList_plain hg fun K' hK' => ?_
  have hrun := hown.lookOk K ht hz hkey
  unfold Oper.wp
  simp [execOp, hop, hm, hx, hrun, Result.andThen]
  exact hK' _ _ hK
theorem wpList_put_fn (w : World) (hg : o.guard = none) (m x v : Operand) (t : TypeId) (hop : o.op = Op.mapUpdate t m x v) (k e : TypeId) (K : Keyed P k) (ht : P.underlying t = some (.map k e))
    (b n : Nat) (G : Lit → Option Value) (hm : a.eval m = .map (some b)) (hown : MapFn w P k b n G) (hn : n < maxLen) (key val : Value) (kl : Lit) (hx : a.eval x = key) (hv : a.eval v = val) (hkey : keyOf P k key = some kl)
    (hK : ∀ w', MapFn w' P k b (n + 1) (putFn G kl val) → w.grownBy w' (some b) → wpList P ops Q rest (a.put o.dst undef) w') : wpList P ops Q (o :: rest) a w := by
  refine wpList_plain hg fun K' hK' => ?_
  obtain ⟨w', hrun, r1, r2⟩ := hown.put K ht hn hkey (val := val)
  unfold Oper.wp
  simp [execOp, hop, hm, hx, hv, hrun, Result.andThen]
  exact hK' _ _ (hK w' r1 r2)
end

end Go.Proofs.YtbkmfomdhjhkpaaGreat
