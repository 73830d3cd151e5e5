/- A table at work; bits; what is met, as data. -/
import Derived.Test.YtjiajgmfkdkheaaUMap
import Derived.Lib.EndianBits

namespace Go.Proofs.Ytjiajgmfkdkheaa
open Go.RowKit Go.Maps

/-! Bits of a list, the first one lowest. -/
def bitsN : List Bool → Nat
  | [] => 0
  | b :: r => (if b = true then 1 else 0) + 2 * bitsN r
theorem bitsN_lt : ∀ l : List Bool, bitsN l < 2 ^ l.length
  | [] => by simp [bitsN]
  | b :: r => by
    have := bitsN_lt r
    rw [List.length_cons, Nat.pow_succ, bitsN]
    split <;> omega
theorem bitsN_snoc : ∀ (l : List Bool) (b : Bool), bitsN (l ++ [b]) = bitsN l + if b = true then 2 ^ l.length else 0
  | [], b => by cases b <;> simp [bitsN]
  | c :: r, b => by
    rw [List.cons_append, bitsN, bitsN_snoc r b, bitsN, List.length_cons, Nat.pow_succ]
    cases b <;> simp <;> omega
theorem bitsN_bit : ∀ (l : List Bool) (i : Nat), i < l.length → bitsN l / 2 ^ i % 2 = if l.getD i false = true then 1 else 0
  | [], i, h => by simp at h
  | b :: r, 0, _ => by
    rw [bitsN]
    cases b <;> simp <;> omega
  | b :: r, i + 1, h => by
    have h2 := bitsN_bit r i (by simpa using h)
    have e : bitsN (b :: r) / 2 ^ (i + 1) = bitsN r / 2 ^ i := by
      rw [bitsN, Nat.pow_succ, Nat.mul_comm (2 ^ i) 2, ← Nat.div_div_eq_div_mul]
      have h3 : ((if b = true then 1 else 0) + 2 * bitsN r) / 2 = bitsN r := by split <;> omega
      rw [h3]
    rw [e, h2]
    simp
theorem pow16 (n : Nat) (h : n ≤ 16) : 1 ≤ 2 ^ n ∧ 2 ^ n ≤ 65536 := by
  have h1 : 2 ^ n ≤ 2 ^ 16 := Nat.pow_le_pow_right (by decide) h
  have h2 : 0 < 2 ^ n := Nat.pow_pos (by decide)
  exact ⟨h2, h1⟩
theorem or_bit (a n : Nat) (h : n ≤ 16) (ha : a < 2 ^ n) : bits BinOp.or IntKind.i64 (a : Int) ((2 ^ n : Nat) : Int) = ((a + 2 ^ n : Nat) : Int) := by
  have hp := pow16 n h
  have hk : ∀ q : Int, 0 ≤ q → q < 2 ^ 62 → IntKind.i64.wrap q = q := fun q h1 h2 => IntWalk.i64_in _ (by omega)
  have h1 : ((2 ^ n : Nat) : Int) % 2 ^ n = 0 := by
    have : ((2 : Int) ^ n) = ((2 ^ n : Nat) : Int) := by push_cast; rfl
    rw [this]; exact Int.emod_self
  have h2 : (a : Int) < 2 ^ n := by
    have : ((2 : Int) ^ n) = ((2 ^ n : Nat) : Int) := by push_cast; rfl
    rw [this]; exact_mod_cast ha
  have := bits_join_low .i64 62 (by decide) hk n (a : Int) ((2 ^ n : Nat) : Int) (by omega) h2 (by omega) (by omega) h1 (by omega)
  rw [this]; push_cast; rfl
theorem and_one (n : Nat) (h : n < 2 ^ 62) : bits BinOp.and IntKind.i64 (n : Int) 1 = ((n % 2 : Nat) : Int) := by
  have hk : ∀ q : Int, 0 ≤ q → q < 2 ^ 62 → IntKind.i64.wrap q = q := fun q h1 h2 => IntWalk.i64_in _ (by omega)
  have := (bits_nat .i64 62 (by decide) hk n 1 h (by decide)).1
  rw [Nat.and_one_is_mod] at this
  exact this
theorem shl_bit (n : Nat) (h : n ≤ 16) : wrap64 ((2 : Int) ^ n) = ((2 ^ n : Nat) : Int) := by
  have hp := pow16 n h
  have : ((2 : Int) ^ n) = ((2 ^ n : Nat) : Int) := by push_cast; rfl
  rw [this]
  unfold wrap64; omega

/-! A table at work. -/
structure TabAt (w : World) (columns : Int) (ol : List SubD) (A : Option Addr) (m : Nat) : Prop where
  ids : IntsAt w w.heap.size A (ol.map fun x => x.v.id)
  map : ∃ G n, MapFn w Try.prog 3 m n G ∧ ∀ x ∈ ol, G (.int .i64 x.v.id) = some (valsV x)
  vals : ∀ x ∈ ol, IntsAt w w.heap.size x.V x.v.vals
  ok : ∀ x ∈ ol, subB columns x.v = true
  len : ol.length ≤ 16
  col : 1 ≤ columns ∧ columns ≤ 5
theorem TabAt.later {w w' : World} {columns : Int} {ol : List SubD} {A : Option Addr} {m : Nat} (h : TabAt w columns ol A m) (hb : Below w.heap.size w w') : TabAt w' columns ol A m :=
  ⟨h.ids.later hb, by obtain ⟨G, n, h1, h2⟩ := h.map; exact ⟨G, n, h1.below hb h1.lt, h2⟩, fun x hx => (h.vals x hx).later hb, h.ok, h.len, h.col⟩
theorem zeroInts (w : World) : (zeroValue 30).run Try.prog w = .ok (.slice none 0 0) w := by kernel_rfl
theorem TabAt.look {w : World} {columns : Int} {ol : List SubD} {A : Option Addr} {m : Nat} (h : TabAt w columns ol A m) {x : SubD} (hx : x ∈ ol) :
    (Instr.lookup 48 (.map (some m)) (.int .i64 x.v.id) false).run Try.prog w = .ok (valsV x) w := by
  obtain ⟨G, n, h1, h2⟩ := h.map
  have hid := (sub_parts (h.ok x hx)).1
  have h3 := h1.look (int_keyed Try.underlying3) Try.underlying48 (zeroInts w) (keyOf_int_mk Try.underlying3 (show (Lit.int .i64 x.v.id).wf = true from WalkArith.wf_i64 (by omega)))
  rw [h2 x hx] at h3
  exact h3
/-- Who is asked for of the first i. -/
def askL (q : Que) (ol : List SubD) : List Bool := ol.map fun x => askB x.v q
def metU (q : Que) (ol : List SubD) : List SubD := ol.filter fun x => askB x.v q
theorem askL_take {q : Que} {ol : List SubD} {i : Nat} (h : i < ol.length) : askL q (ol.take (i + 1)) = askL q (ol.take i) ++ [askB ol[i].v q] := by
  unfold askL; rw [List.take_succ_eq_append_getElem h, List.map_append]; rfl
theorem metU_take {q : Que} {ol : List SubD} {i : Nat} (h : i < ol.length) : metU q (ol.take (i + 1)) = metU q (ol.take i) ++ if askB ol[i].v q = true then [ol[i]] else [] := by
  unfold metU; rw [List.take_succ_eq_append_getElem h, List.filter_append]
  by_cases h1 : askB ol[i].v q = true <;> simp [h1]
theorem askL_get {q : Que} {ol : List SubD} {i : Nat} (h : i < ol.length) : (askL q ol).getD i false = askB ol[i].v q := by
  unfold askL; simp [h]
/-- In order, those who are asked for are those that the reference finds. -/
theorem metL_eq {q : Que} {l ol : List SubD} (hp : ol.Perm l) (hs : ol.Pairwise fun x y => x.v.id ≤ y.v.id) (hn : (l.map fun x => x.v.id).Nodup) : (metU q ol).map (fun x => x.v.id) = metL (l.map SubD.v) q := by
  have hn2 : (ol.map fun x => x.v.id).Nodup := (hp.map fun x : SubD => x.v.id).nodup_iff.2 hn
  refine incr_ext _ _ ?_ (ordI_incr _) fun x => ?_
  · have h1 : ol.Pairwise fun x y => x.v.id < y.v.id := by
      have h2 : ol.Pairwise fun x y => x.v.id ≠ y.v.id := List.pairwise_map.1 hn2
      exact (hs.and h2).imp fun ⟨a, b⟩ => by omega
    exact List.pairwise_map.2 (h1.filter _)
  · rw [metL, ordI_mem]
    simp only [metU, List.mem_map, List.mem_filter]
    constructor
    · rintro ⟨y, ⟨h1, h2⟩, rfl⟩
      exact ⟨y.v, ⟨⟨y, hp.mem_iff.1 h1, rfl⟩, h2⟩, rfl⟩
    · rintro ⟨v, ⟨⟨y, h1, rfl⟩, h2⟩, rfl⟩
      exact ⟨y, ⟨hp.mem_iff.2 h1, h2⟩, rfl⟩
theorem sumL_perm {a b : List Int} (h : a.Perm b) : sumL a = sumL b := by
  induction h with
  | nil => rfl
  | cons x _ ih => simp [sumL, ih]
  | swap x y l => simp only [sumL]; omega
  | trans _ _ ih1 ih2 => exact ih1.trans ih2
theorem sumN_eq {q : Que} {l ol : List SubD} (hp : ol.Perm l) : sumL ((metU q ol).map fun x => cntQ x.v q) = sumN (l.map SubD.v) q := by
  have h1 : sumN (l.map SubD.v) q = sumL ((metU q l).map fun x => cntQ x.v q) := by
    unfold sumN metU
    rw [List.filter_map, List.map_map]; rfl
  rw [h1]
  exact sumL_perm ((hp.filter _).map _)
theorem intInfo : (Try.prog.info? 3).map (fun i => (i.zero, i.size, i.bytes)) = some (some (.int .i64 0), 1, 8) := by kernel_rfl
theorem int_new (w : World) (q : Int) (t : TypeId) : ∀ j u, (intC q)[j]? = some u → (w.alloc (.cells #[.int .i64 q] t)).cell? ((⟨w.heap.size, 0, none⟩ : Addr).add j) = some u := fun j u hj => by
  rw [WideShapes.add_plain, Nat.zero_add]
  exact ((Blk.new w #[.int .i64 q] t).cell j).trans (by simpa [intC] using hj)
def idsL (l : List SubD) : List Int := l.map fun x => x.v.id
def metV (columns : Int) (l : List Sub) (q : Que) : List Int := if askE columns l q = 0 then metL l q else []
/-- Numbers in new memory, and an error. -/
def MeetsPost (w : World) (v : List Int) (E : Int) (e : Ending) (w' : World) : Prop := ∃ A' c', e = .returned (.tuple #[.slice A' v.length c', .int .i64 E]) ∧ IntsAt w' w'.heap.size A' v ∧ Below w.heap.size w w'
end Go.Proofs.Ytjiajgmfkdkheaa
