/- What the law on pairs leans on: lists of records, great ones, the reference, pairs as keys, what is found; lists among the arguments, opened. -/
import Derived.Test.YtbkmfomdhjhkpaaGreatAliveAll
import Derived.Test.YtbkmfomdhjhkpaaGreatPeople
import Derived.Test.YtbkmfomdhjhkpaaGreatSame
import Derived.Test.YtbkmfomdhjhkpaaGreatTwinC
import Derived.Test.YtbkmfomdhjhkpaaGreatClass
import Derived.BigRegion
import Derived.BigQuiet
import Derived.IntWalk
import Derived.Test.YtbkmfomdhjhkpaaGreatSameL
import Derived.Test.YtbkmfomdhjhkpaaGreatCmp
import Derived.Test.YtbkmfomdhjhkpaaGreatPairsW
import Derived.Test.YtbkmfomdhjhkpaaGreatHomesG
import Derived.Test.YtbkmfomdhjhkpaaGreatOpen
import Derived.DeepKeys4
import Derived.Laws.OwnMore
import Derived.Deep.RegionHeld3
import Derived.Deep.AppendLies
import Derived.Test.YtbkmfomdhjhkpaaGreatRecs

namespace Go.Proofs.YtbkmfomdhjhkpaaGreat
open Go.RowKit Go.Maps

theorem RecAt.after {w0 : World} {B : Nat} {A D : Option Addr} {r : Rec} (h : RecAt w0 B A D r) (hB : B ≤ w0.heap.size) (x : After B w0) : RecAt x.val x.val.heap.size A D r :=
  (h.below x.property).more (Nat.le_trans hB x.property.size)

set_option maxRecDepth 100000 in
set_option maxHeartbeats 1000000 in
theorem sameRecords_any (l l' : List RD) (he : l'.map RD.r = l.map RD.r) (A A' : Option Addr) (c c' : Nat) (w : World) (h : Recs w w.heap.size A l) (h' : Recs w w.heap.size A' l') (hl : l.length ≤ maxLen) :
    Calls Tryz.prog 18 #[.slice A l.length c, .slice A' l.length c'] w fun e w' => e = .returned (.bool true) ∧ Below w.heap.size w w' := by
  unfold maxLen at hl
  have hlen : l'.length = l.length := by simpa using congrArg List.length he
  have Hlen := Lib.hid hlen
  clear hlen
  go_enter Tryz.func18, Tryz.ntmps18
  go_wp2_with fail
  go_loopw [5] (fun ii wr => ∃ i : Nat, i ≤ l.length ∧ ii = .int .i64 i ∧ Below w.heap.size w wr) (fun ii _ => l.length - (intOf ii).toNat)
  case atStart => exact ⟨0, Nat.zero_le _, rfl, Below.refl _ _⟩
  case round =>
    obtain ⟨i, hi, rfl, hbel⟩ := hrel
    by_cases hlt : i < l.length
    · have hil : (i : Int) < (l.length : Int) := by omega
      have hlt2 : i < l'.length := by rw [Hlen.out]; exact hlt
      have hxy : l'[i].r = l[i].r := by
        have h1 := congrArg (fun m => m[i]?) he
        simpa [hlt, hlt2] using h1
      obtain ⟨b, off, rfl, hb, C, hr, _⟩ := (h.later hbel).eight hlt
      obtain ⟨b2, off2, rfl, hb2, C2, hr2, _⟩ := (h'.later hbel).eight hlt2
      generalize l[i] = x at *
      generalize l'[i] = y at *
      obtain ⟨r2, A2, c2, D2, d2⟩ := y
      dsimp only at hxy
      subst hxy
      obtain ⟨a0, a1, a2, a3, a4, a5, a6, a7⟩ := C
      obtain ⟨e0, e1, e2, e3, e4, e5, e6, e7⟩ := C2
      dsimp only at hr2 e0 e1 e2 e3 e4 e5 e6 e7
      have HS := Lib.hid (fun z : After wr.heap.size wr => same_any x.A x.D A2 D2 x.c x.d c2 d2 x.r z.val (hr.after (Nat.le_refl _) z) (hr2.after (Nat.le_refl _) z))
      have p0 : ∀ z : After wr.heap.size wr, z.val.cell? ⟨b, off + i * 8, none⟩ = some (.int .i64 x.r.id) := After.cell a0 hb
      have p1 : ∀ z : After wr.heap.size wr, z.val.cell? ⟨b, off + i * 8 + 1, none⟩ = some (.slice x.A x.r.names.length x.c) := After.cell a1 hb
      have p2 : ∀ z : After wr.heap.size wr, z.val.cell? ⟨b, off + i * 8 + 2, none⟩ = some (.int .u8 x.r.suf) := After.cell a2 hb
      have p3 : ∀ z : After wr.heap.size wr, z.val.cell? ⟨b, off + i * 8 + 3, none⟩ = some (.int .i64 x.r.lo) := After.cell a3 hb
      have p4 : ∀ z : After wr.heap.size wr, z.val.cell? ⟨b, off + i * 8 + 4, none⟩ = some (.int .i64 x.r.hi) := After.cell a4 hb
      have p5 : ∀ z : After wr.heap.size wr, z.val.cell? ⟨b, off + i * 8 + 5, none⟩ = some (.string x.r.num) := After.cell a5 hb
      have p6 : ∀ z : After wr.heap.size wr, z.val.cell? ⟨b, off + i * 8 + 6, none⟩ = some (.bool x.r.twin) := After.cell a6 hb
      have p7 : ∀ z : After wr.heap.size wr, z.val.cell? ⟨b, off + i * 8 + 7, none⟩ = some (.slice x.D x.r.stays.length x.d) := After.cell a7 hb
      have q0 : ∀ z : After wr.heap.size wr, z.val.cell? ⟨b2, off2 + i * 8, none⟩ = some (.int .i64 x.r.id) := After.cell e0 hb2
      have q1 : ∀ z : After wr.heap.size wr, z.val.cell? ⟨b2, off2 + i * 8 + 1, none⟩ = some (.slice A2 x.r.names.length c2) := After.cell e1 hb2
      have q2 : ∀ z : After wr.heap.size wr, z.val.cell? ⟨b2, off2 + i * 8 + 2, none⟩ = some (.int .u8 x.r.suf) := After.cell e2 hb2
      have q3 : ∀ z : After wr.heap.size wr, z.val.cell? ⟨b2, off2 + i * 8 + 3, none⟩ = some (.int .i64 x.r.lo) := After.cell e3 hb2
      have q4 : ∀ z : After wr.heap.size wr, z.val.cell? ⟨b2, off2 + i * 8 + 4, none⟩ = some (.int .i64 x.r.hi) := After.cell e4 hb2
      have q5 : ∀ z : After wr.heap.size wr, z.val.cell? ⟨b2, off2 + i * 8 + 5, none⟩ = some (.string x.r.num) := After.cell e5 hb2
      have q6 : ∀ z : After wr.heap.size wr, z.val.cell? ⟨b2, off2 + i * 8 + 6, none⟩ = some (.bool x.r.twin) := After.cell e6 hb2
      have q7 : ∀ z : After wr.heap.size wr, z.val.cell? ⟨b2, off2 + i * 8 + 7, none⟩ = some (.slice D2 x.r.stays.length d2) := After.cell e7 hb2
      clear a0 a1 a2 a3 a4 a5 a6 a7 e0 e1 e2 e3 e4 e5 e6 e7
      go_wp2_with fail
      refine wp_region_class_lit (C := fun w' => ∃ x : After wr.heap.size wr, w' = x.val) (by kernel_rfl) (by kernel_rfl) ⟨⟨_, (Below.refl _ _).drew⟩, rfl⟩ ?_
      repeat (go_big_quiet_step ((go_at_call 44; exact after_of (Nat.le_refl _) _ (HS.out _))))
      refine wpQuiet_nil ?_
      intro _ hw'
      obtain ⟨⟨wz, hz⟩, hw''⟩ := hw'
      dsimp only at hw''
      subst hw''
      go_wp2_with fail
      go_roundw
      case rel => exact ⟨i + 1, by omega, by go_num, hbel.trans (hz.mono hbel.size)⟩
      case measure => simp [intOf]; omega
    · have hil : ¬ (i : Int) < (l.length : Int) := by omega
      go_wp2_with fail
      go_ret
      exact ⟨rfl, hbel⟩

theorem recInfo : (Tryz.prog.info? 47).map (fun i => (i.zero, i.size, i.bytes)) = some (some (.agg #[.int .i64 0, .slice none 0 0, .int .u8 0, .int .i64 0, .int .i64 0, .string ByteArray.empty, .bool false, .slice none 0 0]), 8, 104) := by kernel_rfl

theorem recCells_len : ∀ l : List RD, (l.flatMap recCells).length = l.length * 8
  | [] => rfl
  | x :: l => by rw [List.flatMap_cons, List.length_append, recCells_len l]; simp [recCells]; omega
theorem recCells_set (l : List RD) (k : Nat) (hk : k < l.length) (y : RD) : (((((((((l.flatMap recCells).set (k * 8) (.int .i64 y.r.id)).set (k * 8 + 1) (.slice y.A y.r.names.length y.c)).set (k * 8 + 2) (.int .u8 y.r.suf)).set (k * 8 + 3) (.int .i64 y.r.lo)).set (k * 8 + 4) (.int .i64 y.r.hi)).set (k * 8 + 5) (.string y.r.num)).set (k * 8 + 6) (.bool y.r.twin)).set (k * 8 + 7) (.slice y.D y.r.stays.length y.d)) = (l.set k y).flatMap recCells := by
  apply List.ext_getElem?
  intro j
  obtain ⟨q, i, hi, rfl⟩ : ∃ q i, i < 8 ∧ j = q * 8 + i := ⟨j / 8, j % 8, by omega, by omega⟩
  by_cases hq : q < l.length
  · rw [recCells_get (l.set k y) q (by simpa using hq) i hi]
    by_cases hqk : k = q
    · subst hqk
      have h8 : k * 8 + 7 < (l.flatMap recCells).length := by rw [recCells_len]; omega
      have hy : (l.set k y)[k]'(by simpa using hq) = y := by simp
      rw [hy]
      rcases (by omega : i = 0 ∨ i = 1 ∨ i = 2 ∨ i = 3 ∨ i = 4 ∨ i = 5 ∨ i = 6 ∨ i = 7) with rfl | rfl | rfl | rfl | rfl | rfl | rfl | rfl
      all_goals (generalize l.flatMap recCells = F at h8 ⊢; simp [List.getElem?_set, recCells]; omega)
    · have hy : (l.set k y)[q]'(by simpa using hq) = l[q] := by simp [hqk]
      rw [hy, ← recCells_get l q hq i hi]
      simp only [List.getElem?_set]
      repeat rw [if_neg (by omega)]
  · rw [List.getElem?_eq_none (by simp only [List.length_set]; rw [recCells_len]; omega), List.getElem?_eq_none (by rw [recCells_len]; simp; omega)]


/-- A record whose slices lie elsewhere than in block g. -/
structure RecNot (W : World) (g : Nat) (x : RD) : Prop where
  strs : ∀ k, (h : k < x.r.names.length) → ∃ b off, x.A = some ⟨b, off, none⟩ ∧ b < W.heap.size ∧ b ≠ g ∧ W.cell? ⟨b, off + k, none⟩ = some (.string x.r.names[k]) ∧ x.r.names[k].size ≤ maxLen
  stays : ∀ k, (h : k < x.r.stays.length) → ∃ b off, x.D = some ⟨b, off, none⟩ ∧ b < W.heap.size ∧ b ≠ g ∧ W.cell? ⟨b, off + k * 3, none⟩ = some (.int .i64 x.r.stays[k].p) ∧ W.cell? ⟨b, off + k * 3 + 1, none⟩ = some (.int .i64 x.r.stays[k].f) ∧ W.cell? ⟨b, off + k * 3 + 2, none⟩ = some (.int .i64 x.r.stays[k].t)
  names_le : x.r.names.length ≤ maxLen
  stays_le : x.r.stays.length ≤ maxLen
  num_le : x.r.num.size ≤ maxLen
  cap : x.r.names.length ≤ x.c
theorem RecNot.at_ {W : World} {g : Nat} {x : RD} (h : RecNot W g x) : RecAt W W.heap.size x.A x.D x.r :=
  ⟨fun k hk => by obtain ⟨b, off, e, h1, _, h2, h3⟩ := h.strs k hk; exact ⟨b, off, e, h1, h2, h3⟩, fun k hk => by obtain ⟨b, off, e, h1, _, h2, h3, h4⟩ := h.stays k hk; exact ⟨b, off, e, h1, h2, h3, h4⟩, h.names_le, h.stays_le, h.num_le⟩
theorem RecNot.move {W W' : World} {g : Nat} {x : RD} (h : RecNot W g x) (hz : W.heap.size ≤ W'.heap.size) (hk : ∀ b o, b < W.heap.size → b ≠ g → W'.cell? ⟨b, o, none⟩ = W.cell? ⟨b, o, none⟩) : RecNot W' g x :=
  ⟨fun k hl => by obtain ⟨b, off, e, h1, h0, h2, h3⟩ := h.strs k hl; exact ⟨b, off, e, by omega, h0, (hk _ _ h1 h0).trans h2, h3⟩, fun k hl => by
    obtain ⟨b, off, e, h1, h0, h2, h3, h4⟩ := h.stays k hl
    exact ⟨b, off, e, by omega, h0, (hk _ _ h1 h0).trans h2, (hk _ _ h1 h0).trans h3, (hk _ _ h1 h0).trans h4⟩, h.names_le, h.stays_le, h.num_le, h.cap⟩
theorem RecNot.set {W : World} {g : Nat} {x : RD} (h : RecNot W g x) (j : Nat) (v : Value) : RecNot (W.setCell ⟨g, j, none⟩ v) g x :=
  h.move (by simp) fun b o _ hb => World.cell?_of_block (heap_setCell_other W ⟨g, j, none⟩ b v hb)
theorem RecNot.below {W W' : World} {g : Nat} {x : RD} (h : RecNot W g x) (hb : Below W.heap.size W W') : RecNot W' g x := h.move hb.size fun b o h1 _ => hb.cell (p := ⟨b, o, none⟩) h1
theorem RecNot.of_at {w W : World} {g : Nat} {x : RD} (h : RecAt w w.heap.size x.A x.D x.r) (hc : x.r.names.length ≤ x.c) (hg : w.heap.size ≤ g) (hb : Below w.heap.size w W) : RecNot W g x :=
  ⟨fun k hk => by obtain ⟨b, off, e, h1, h2, h3⟩ := h.strs k hk; exact ⟨b, off, e, Nat.lt_of_lt_of_le h1 hb.size, by omega, (hb.cell (p := ⟨b, _, none⟩) h1).trans h2, h3⟩, fun k hk => by
    obtain ⟨b, off, e, h1, h2, h3, h4⟩ := h.stays k hk
    exact ⟨b, off, e, Nat.lt_of_lt_of_le h1 hb.size, by omega, (hb.cell (p := ⟨b, _, none⟩) h1).trans h2, (hb.cell (p := ⟨b, _, none⟩) h1).trans h3, (hb.cell (p := ⟨b, _, none⟩) h1).trans h4⟩, h.names_le, h.stays_le, h.num_le, hc⟩
theorem RecNot.of_in {W : World} {g lo : Nat} {x : RD} (h : RecIn W lo W.heap.size x.A x.D x.r) (hc : x.r.names.length ≤ x.c) (hg : g < lo) : RecNot W g x :=
  ⟨fun k hk => by obtain ⟨b, off, e, h0, h1, h2, h3⟩ := h.strs k hk; exact ⟨b, off, e, h1, by omega, h2, h3⟩, fun k hk => by
    obtain ⟨b, off, e, h0, h1, h2, h3, h4⟩ := h.stays k hk
    exact ⟨b, off, e, h1, by omega, h2, h3, h4⟩, h.names_le, h.stays_le, h.num_le, hc⟩

theorem Recs.none_ {w : World} {B : Nat} {l : List RD} (h : Recs w B none l) : l.length = 0 := by
  rcases Nat.eq_zero_or_pos l.length with e | e
  · exact e
  · obtain ⟨_, _, he, _⟩ := h 0 e; cases he
theorem Recs.news {w : World} {B : Nat} {A : Option Addr} {l : List RD} (h : Recs w B A l) : ∀ ad, A = some ad → ∀ j u, (l.flatMap recCells)[j]? = some u → w.cell? (ad.add j) = some u := fun ad e j u hj => by
  obtain ⟨q, i, hi, rfl⟩ : ∃ q i, i < 8 ∧ j = q * 8 + i := ⟨j / 8, j % 8, by omega, by omega⟩
  have hq : q < l.length := by
    have := (List.getElem?_eq_some_iff.1 hj).1
    rw [recCells_len] at this; omega
  obtain ⟨b, off, he, _, hc, _⟩ := h q hq
  rw [e] at he; cases he
  rw [WideShapes.add_plain, ← Nat.add_assoc, hc i hi]
  rw [recCells_get l q hq i hi] at hj
  rw [← hj]; simp [recCells]
theorem recCells_one (l : List RD) : ∀ u ∈ l.flatMap recCells, u.oneCell' = true := fun u hu => by
  simp only [List.mem_flatMap, recCells] at hu
  obtain ⟨x, _, hu⟩ := hu
  simp only [List.mem_cons, List.not_mem_nil, or_false] at hu
  rcases hu with rfl | rfl | rfl | rfl | rfl | rfl | rfl | rfl <;> rfl
theorem recs_own {W : World} {base : Nat} {A : Option Addr} {c : Nat} {l : List RD} (h : W.ownsRow base 47 8 (.slice A l.length c) l.length (l.flatMap recCells)) (hr : ∀ x ∈ l, RecAt W W.heap.size x.A x.D x.r ∧ x.r.names.length ≤ x.c) : Recs W W.heap.size A l := fun k hk => by
  obtain ⟨g, cap, hv, hb, hlt⟩ := h.form (by omega)
  simp only [Value.slice.injEq, true_and] at hv
  obtain ⟨rfl, rfl⟩ := hv
  refine ⟨g, 0, rfl, hlt, fun i hi => ?_, hr _ (List.getElem_mem hk)⟩
  rw [Nat.zero_add, h.cellAt (k * 8 + i) (by omega), recCells_get l k hk i hi]; simp [recCells]

/-- What holds while a list is taken over into new memory, the first i of it done. -/
def TW (l : List RD) (w W : World) (A1 : Option Addr) (c1 : Nat) : Prop := ∃ ml : List RD, ml.map RD.r = l.map RD.r ∧ W.ownsRow w.heap.size 47 8 (.slice A1 l.length c1) l.length (ml.flatMap recCells) ∧ (∀ g, A1 = some ⟨g, 0, none⟩ → ∀ x ∈ ml, RecNot W g x) ∧ Below w.heap.size w W

theorem tw_next {l ml : List RD} {w wr w2 : World} {g c1 i : Nat} {x : RD} {A2 D2 : Option Addr} {c2 d2 : Nat} (HML : ∀ y : RD, y.r = x.r → (ml.set i y).map RD.r = l.map RD.r)
    (HSet : ∀ y : RD, (((((((((ml.flatMap recCells).set (i * 8) (.int .i64 y.r.id)).set (i * 8 + 1) (.slice y.A y.r.names.length y.c)).set (i * 8 + 2) (.int .u8 y.r.suf)).set (i * 8 + 3) (.int .i64 y.r.lo)).set (i * 8 + 4) (.int .i64 y.r.hi)).set (i * 8 + 5) (.string y.r.num)).set (i * 8 + 6) (.bool y.r.twin)).set (i * 8 + 7) (.slice y.D y.r.stays.length y.d)) = (ml.set i y).flatMap recCells) (HR : ∀ z ∈ ml, RecNot wr g z) (hx : RecNot wr g x)
    (hown : wr.ownsRow w.heap.size 47 8 (.slice (some ⟨g, 0, none⟩) l.length c1) l.length (ml.flatMap recCells)) (hbel : Below w.heap.size w wr)
    (oN : w2.ownsRow wr.heap.size 9 1 (.slice A2 x.r.names.length c2) x.r.names.length (x.r.names.map Value.string)) (oS : w2.ownsRow wr.heap.size 75 3 (.slice D2 x.r.stays.length d2) x.r.stays.length (stayCells x.r.stays)) (hb2 : Below wr.heap.size wr w2) (hc2 : x.r.names.length ≤ c2) :
    TW l w ((((((((w2.setCell ⟨g, i * 8, none⟩ (.int .i64 x.r.id)).setCell ⟨g, i * 8 + 1, none⟩ (.slice A2 x.r.names.length c2)).setCell ⟨g, i * 8 + 2, none⟩ (.int .u8 x.r.suf)).setCell ⟨g, i * 8 + 3, none⟩ (.int .i64 x.r.lo)).setCell ⟨g, i * 8 + 4, none⟩ (.int .i64 x.r.hi)).setCell ⟨g, i * 8 + 5, none⟩ (.string x.r.num)).setCell ⟨g, i * 8 + 6, none⟩ (.bool x.r.twin)).setCell ⟨g, i * 8 + 7, none⟩ (.slice D2 x.r.stays.length d2)) (some ⟨g, 0, none⟩) c1 := by
  have own2 := own_below hown hb2
  have hglt : g < wr.heap.size := (hown.lt g rfl).2
  have hgb : w.heap.size ≤ g := (hown.lt g rfl).1
  have hy : RecNot w2 g ⟨x.r, A2, c2, D2, d2⟩ := RecNot.of_in (lo := wr.heap.size) ⟨strsIn_of_own (Nat.le_refl _) oN (fun s hs => by
    obtain ⟨k, hk, rfl⟩ := List.getElem_of_mem hs
    obtain ⟨_, _, _, _, _, _, g⟩ := hx.strs k hk
    exact g), staysIn_of_own (Nat.le_refl _) oS, hx.names_le, hx.stays_le, hx.num_le⟩ hc2 hglt
  refine ⟨ml.set i ⟨x.r, A2, c2, D2, d2⟩, HML ⟨x.r, A2, c2, D2, d2⟩ rfl, ?_, fun g' hg' z hz => ?_, ?_⟩
  · have := ((((((((own2.stored (i * 8) (.int .i64 x.r.id)).1.stored (i * 8 + 1) (.slice A2 x.r.names.length c2)).1.stored (i * 8 + 2) (.int .u8 x.r.suf)).1.stored (i * 8 + 3) (.int .i64 x.r.lo)).1.stored (i * 8 + 4) (.int .i64 x.r.hi)).1.stored (i * 8 + 5) (.string x.r.num)).1.stored (i * 8 + 6) (.bool x.r.twin)).1.stored (i * 8 + 7) (.slice D2 x.r.stays.length d2)).1
    rw [← HSet ⟨x.r, A2, c2, D2, d2⟩]
    exact this
  · cases hg'
    rcases List.mem_or_eq_of_mem_set hz with h1 | h1
    · have hx := (HR z h1).below hb2
      exact ((((((((hx.set (i * 8) (.int .i64 x.r.id)).set (i * 8 + 1) (.slice A2 x.r.names.length c2)).set (i * 8 + 2) (.int .u8 x.r.suf)).set (i * 8 + 3) (.int .i64 x.r.lo)).set (i * 8 + 4) (.int .i64 x.r.hi)).set (i * 8 + 5) (.string x.r.num)).set (i * 8 + 6) (.bool x.r.twin)).set (i * 8 + 7) (.slice D2 x.r.stays.length d2))
    · subst h1
      have hx := hy
      exact ((((((((hx.set (i * 8) (.int .i64 x.r.id)).set (i * 8 + 1) (.slice A2 x.r.names.length c2)).set (i * 8 + 2) (.int .u8 x.r.suf)).set (i * 8 + 3) (.int .i64 x.r.lo)).set (i * 8 + 4) (.int .i64 x.r.hi)).set (i * 8 + 5) (.string x.r.num)).set (i * 8 + 6) (.bool x.r.twin)).set (i * 8 + 7) (.slice D2 x.r.stays.length d2))
  · have e : Below w.heap.size w w2 := hbel.trans (hb2.mono hbel.size)
    exact (((((((e.setCell (by show w.heap.size ≤ g; omega) _).setCell (by show w.heap.size ≤ g; omega) _).setCell (by show w.heap.size ≤ g; omega) _).setCell (by show w.heap.size ≤ g; omega) _).setCell (by show w.heap.size ≤ g; omega) _).setCell (by show w.heap.size ≤ g; omega) _).setCell (by show w.heap.size ≤ g; omega) _).setCell (by show w.heap.size ≤ g; omega) _

/-- A list in new memory, which reads as the other one. -/
def TwinPost (w : World) (l : List RD) (e : Ending) (w' : World) : Prop := ∃ A' c' l', e = .returned (.slice A' l.length c') ∧ Hid (l'.map RD.r = l.map RD.r ∧ Recs w' w'.heap.size A' l') ∧ Below w.heap.size w w'

set_option maxRecDepth 100000 in
set_option maxHeartbeats 2000000 in
theorem twinList_any (l : List RD) (A : Option Addr) (c : Nat) (w : World) (h : Recs w w.heap.size A l) (hl : l.length ≤ 1000) (hn : ∀ x ∈ l, x.r.names.length ≤ 1000 ∧ x.r.stays.length ≤ 1000) :
    Calls Tryz.prog 11 #[.slice A l.length c] w (TwinPost w l) := by
  obtain ⟨i0, hi, hz0, hz1, hz2⟩ := info_parts recInfo
  have hown0 : (w.alloc (.cells #[] 47)).ownsRow w.heap.size 47 8 (.slice (some ⟨w.heap.size, 0, none⟩) 0 0) 0 [] := by
    simpa using World.ownsRow_made (base := w.heap.size) (e := 47) (size := 8) w #[] 0 (Nat.le_refl _) (by simp [maxLen]) (by simp)
  have h0 := h.later ((Below.refl _ _).alloc (Nat.le_refl _) (.cells #[] 47))
  go_enter Tryz.func11, Tryz.ntmps11
  go_wp2_with (at_builtin; refine wpList_append_src _ rfl (.tmp 5) (.tmp 6) 24 rfl w.heap.size 47 i0 _ 8 104 Tryz.underlying24 hi hz0 hz1 hz2 rfl (by decide) _ 0 [] rfl ?a1 A l.length c (l.flatMap recCells) rfl ?a2 ?a3 ?a4 ?a5 ?a6 ?a7 ?a8 ?_)
  case a1 => exact hown0
  case a2 => exact recCells_len l
  case a3 => rintro rfl; exact h.none_
  case a4 => exact h0.news
  case a5 => exact recCells_one l
  case a6 => unfold maxLen; omega
  case a7 => omega
  case a8 => simp
  intro v1 w1 hown1 hg1 _
  obtain ⟨A1, c1, rfl⟩ := own_slice hown1
  have hb1 : Below w.heap.size w w1 := ((Below.refl _ _).alloc (Nat.le_refl _) _).grown hg1 (by simp) (by intro k hk; simp [Value.ownBlock] at hk; omega)
  have HW : Hid (TW l w w1 A1 c1) := Lib.hid ⟨l, rfl, hown1, fun g hg x hx => by
    obtain ⟨k, hk, rfl⟩ := List.getElem_of_mem hx
    obtain ⟨_, _, _, _, _, h3, h4⟩ := h k hk
    exact RecNot.of_at h3 h4 ((hown1.lt g (by rw [hg]; rfl)).1) hb1, hb1⟩
  clear hown1 hg1 hown0 h0 hb1
  go_wp2_with fail
  go_loopw [4] (fun ii wr => ∃ i : Nat, i ≤ l.length ∧ ii = .int .i64 i ∧ Hid (TW l w wr A1 c1)) (fun ii _ => l.length - (intOf ii).toNat)
  case atStart => exact ⟨0, Nat.zero_le _, rfl, HW⟩
  case round =>
    obtain ⟨i, hi, rfl, hT⟩ := hrel
    by_cases hlt : i < l.length
    · have hil : (i : Int) < (l.length : Int) := by omega
      obtain ⟨ml, hm, hown, hR, hbel⟩ := hT.out
      have hml : ml.length = l.length := by simpa using congrArg List.length hm
      have hltm : i < ml.length := by omega
      have hlen8 := recCells_len ml
      obtain ⟨g, cap, hv, hgb, hglt⟩ := hown.form (by omega)
      simp only [Value.slice.injEq, true_and] at hv
      obtain ⟨rfl, rfl⟩ := hv
      have hRx := hR g rfl ml[i] (List.getElem_mem hltm)
      have hnx : ml[i].r.names.length ≤ 1000 ∧ ml[i].r.stays.length ≤ 1000 := by
        have h1 := congrArg (fun q => q[i]?) hm
        have h2 : ml[i].r = l[i].r := by simpa [hlt, hltm] using h1
        rw [h2]; exact hn _ (List.getElem_mem hlt)
      have HML : Hid (∀ y : RD, y.r = ml[i].r → (ml.set i y).map RD.r = l.map RD.r) := Lib.hid (fun y hy => by
        rw [List.map_set, hy, ← hm]
        apply List.ext_getElem
        · simp
        · intro q h1 h2
          rw [List.getElem_set]
          split
          · rename_i e; subst e; simp
          · rfl)
      have HSet := Lib.hid (recCells_set ml i hltm)
      have HR := Lib.hid (hR g rfl)
      have hget := recCells_get ml i hltm
      have hxe : (recCells ml[i]) = recCells ml[i] := rfl
      clear hxe
      have a0 : wr.cell? ⟨g, i * 8, none⟩ = some (.int .i64 ml[i].r.id) := (hown.cellAt (i * 8) (by omega)).trans (hget 0 (by omega))
      have a1 : wr.cell? ⟨g, i * 8 + 1, none⟩ = some (.slice ml[i].A ml[i].r.names.length ml[i].c) := (hown.cellAt (i * 8 + 1) (by omega)).trans (hget 1 (by omega))
      have a2 : wr.cell? ⟨g, i * 8 + 2, none⟩ = some (.int .u8 ml[i].r.suf) := (hown.cellAt (i * 8 + 2) (by omega)).trans (hget 2 (by omega))
      have a3 : wr.cell? ⟨g, i * 8 + 3, none⟩ = some (.int .i64 ml[i].r.lo) := (hown.cellAt (i * 8 + 3) (by omega)).trans (hget 3 (by omega))
      have a4 : wr.cell? ⟨g, i * 8 + 4, none⟩ = some (.int .i64 ml[i].r.hi) := (hown.cellAt (i * 8 + 4) (by omega)).trans (hget 4 (by omega))
      have a5 : wr.cell? ⟨g, i * 8 + 5, none⟩ = some (.string ml[i].r.num) := (hown.cellAt (i * 8 + 5) (by omega)).trans (hget 5 (by omega))
      have a6 : wr.cell? ⟨g, i * 8 + 6, none⟩ = some (.bool ml[i].r.twin) := (hown.cellAt (i * 8 + 6) (by omega)).trans (hget 6 (by omega))
      have a7 : wr.cell? ⟨g, i * 8 + 7, none⟩ = some (.slice ml[i].D ml[i].r.stays.length ml[i].d) := (hown.cellAt (i * 8 + 7) (by omega)).trans (hget 7 (by omega))
      have HT := Lib.hid (twin_own ml[i].A ml[i].D ml[i].c ml[i].d ml[i].r wr hRx.at_ hnx.1 hnx.2)
      have Hown := Lib.hid hown
      have Hget := Lib.hid hget
      have Hl8 := Lib.hid (And.intro hml hlen8)
      have HX := Lib.hid hRx
      clear hT hm hown hR hRx hnx hlen8 hget hml
      generalize ml[i] = x at *
      go_wp2_with (go_at_call 24; (with_reducible refine (HT.out).mono ?_); rintro e w2 ⟨A2, c2, D2, d2, rfl, oN, oS, hb2, hc2⟩; have own2 := own_below Hown.out hb2; have d0 : w2.cell? ⟨g, i * 8, none⟩ = some (.int .i64 x.r.id) := (own2.cellAt (i * 8) (by omega)).trans (Hget.out 0 (by omega)); have z0 := own2.frozenAt (i * 8); have d1 : w2.cell? ⟨g, i * 8 + 1, none⟩ = some (.slice x.A x.r.names.length x.c) := (own2.cellAt (i * 8 + 1) (by omega)).trans (Hget.out 1 (by omega)); have z1 := own2.frozenAt (i * 8 + 1); have d2 : w2.cell? ⟨g, i * 8 + 2, none⟩ = some (.int .u8 x.r.suf) := (own2.cellAt (i * 8 + 2) (by omega)).trans (Hget.out 2 (by omega)); have z2 := own2.frozenAt (i * 8 + 2); have d3 : w2.cell? ⟨g, i * 8 + 3, none⟩ = some (.int .i64 x.r.lo) := (own2.cellAt (i * 8 + 3) (by omega)).trans (Hget.out 3 (by omega)); have z3 := own2.frozenAt (i * 8 + 3); have d4 : w2.cell? ⟨g, i * 8 + 4, none⟩ = some (.int .i64 x.r.hi) := (own2.cellAt (i * 8 + 4) (by omega)).trans (Hget.out 4 (by omega)); have z4 := own2.frozenAt (i * 8 + 4); have d5 : w2.cell? ⟨g, i * 8 + 5, none⟩ = some (.string x.r.num) := (own2.cellAt (i * 8 + 5) (by omega)).trans (Hget.out 5 (by omega)); have z5 := own2.frozenAt (i * 8 + 5); have d6 : w2.cell? ⟨g, i * 8 + 6, none⟩ = some (.bool x.r.twin) := (own2.cellAt (i * 8 + 6) (by omega)).trans (Hget.out 6 (by omega)); have z6 := own2.frozenAt (i * 8 + 6); have d7 : w2.cell? ⟨g, i * 8 + 7, none⟩ = some (.slice x.D x.r.stays.length x.d) := (own2.cellAt (i * 8 + 7) (by omega)).trans (Hget.out 7 (by omega)); have z7 := own2.frozenAt (i * 8 + 7); have HN := Lib.hid (tw_next (HML.out) (HSet.out) HR.out HX.out Hown.out hbel oN oS hb2 hc2); clear own2 oN oS)
      go_roundw
      case rel => exact ⟨i + 1, by omega, by go_num, HN⟩
      case measure => simp [intOf]; omega
    · have hil : ¬ (i : Int) < (l.length : Int) := by omega
      go_wp2_with fail
      go_ret
      obtain ⟨ml, hm, hown, hR, hbel⟩ := hT.out
      have hml : ml.length = l.length := by simpa using congrArg List.length hm
      refine ⟨A1, c1, ml, rfl, Lib.hid ⟨hm, ?_⟩, hbel⟩
      rw [← hml] at hown
      refine recs_own hown fun z hz => ?_
      obtain ⟨k, hk, rfl⟩ := List.getElem_of_mem hz
      obtain ⟨g, cap, hv, _, _⟩ := hown.form (by omega)
      simp only [Value.slice.injEq, true_and] at hv
      have hz2 := hR g hv.1 _ (List.getElem_mem hk)
      exact ⟨hz2.at_, hz2.cap⟩

end Go.Proofs.YtbkmfomdhjhkpaaGreat

namespace Go.Proofs.YtbkmfomdhjhkpaaGreat
open Go.RowKit

/-- All pairs up to i are in order, but for those whose later one is k. -/
def InsInv (f : Nat → Int) (i k : Nat) : Prop := ∀ a b, a < b → b ≤ i → b ≠ k → f a ≤ f b
def swp (f : Nat → Int) (k : Nat) (a : Nat) : Int := if a = k then f (k - 1) else if a = k - 1 then f k else f a
theorem ins_start {f : Nat → Int} {i : Nat} (h : ∀ a b, a < b → b < i → f a ≤ f b) : InsInv f i i := fun a b h1 h2 h3 => h a b h1 (by omega)
theorem ins_step {f : Nat → Int} {i k : Nat} (hk : 0 < k) (hlt : f k < f (k - 1)) (h : InsInv f i k) : InsInv (swp f k) i (k - 1) := fun a b h1 h2 h3 => by
  unfold swp
  by_cases hb : b = k
  · subst hb
    rw [if_pos rfl, if_neg (by omega)]
    by_cases ha : a = b - 1
    · rw [if_pos ha]; omega
    · rw [if_neg ha]; exact h a (b - 1) (by omega) (by omega) (by omega)
  · rw [if_neg hb, if_neg h3]
    by_cases ha : a = k
    · subst ha; rw [if_pos rfl]; exact h (a - 1) b (by omega) h2 hb
    · rw [if_neg ha]
      by_cases ha2 : a = k - 1
      · rw [if_pos ha2]; exact h k b (by omega) h2 hb
      · rw [if_neg ha2]; exact h a b h1 h2 hb
theorem ins_end {f : Nat → Int} {i k : Nat} (h : InsInv f i k) (he : k = 0 ∨ f (k - 1) ≤ f k) : ∀ a b, a < b → b < i + 1 → f a ≤ f b := fun a b h1 h2 => by
  by_cases hb : b = k
  · subst hb
    rcases he with he | he
    · omega
    · by_cases ha : a = b - 1
      · rw [ha]; exact he
      · exact Int.le_trans (h a (b - 1) (by omega) (by omega) (by omega)) he
  · exact h a b h1 (by omega) hb

section
variable {α : Type}
/-- Two neighbours exchanged. -/
def swapL (l : List α) (k : Nat) (x y : α) : List α := (l.set k x).set (k - 1) y
theorem swapL_len (l : List α) (k : Nat) (x y : α) : (swapL l k x y).length = l.length := by simp [swapL]
theorem swapL_get (l : List α) (k : Nat) (hk : 0 < k) (hl : k < l.length) (a : Nat) (ha : a < l.length) : (swapL l k (l[k - 1]'(by omega)) l[k])[a]'(by rw [swapL_len]; exact ha) = if a = k then l[k - 1]'(by omega) else if a = k - 1 then l[k] else l[a] := by
  unfold swapL
  rw [List.getElem_set]
  by_cases h1 : k - 1 = a
  · rw [if_pos h1, if_neg (by omega), if_pos h1.symm]
  · rw [if_neg h1, List.getElem_set]
    by_cases h2 : k = a
    · rw [if_pos h2, if_pos h2.symm]
    · rw [if_neg h2, if_neg (fun e => h2 e.symm), if_neg (fun e => h1 e.symm)]
theorem swapL_perm (l : List α) (k : Nat) (hk : 0 < k) (hl : k < l.length) : (swapL l k (l[k - 1]'(by omega)) l[k]).Perm l := by
  obtain ⟨m, rfl⟩ : ∃ m, k = m + 1 := ⟨k - 1, by omega⟩
  have e : swapL l (m + 1) (l[m]'(by omega)) l[m + 1] = l.take m ++ l[m + 1] :: (l[m]'(by omega)) :: l.drop (m + 2) := by
    apply List.ext_getElem
    · rw [swapL_len]; simp; omega
    · intro a h1 h2
      have h3 : a < l.length := by rwa [swapL_len] at h1
      have hg := swapL_get l (m + 1) (by omega) hl a h3
      simp only [Nat.add_sub_cancel] at hg
      rw [hg]
      by_cases hm : a < m
      · rw [if_neg (by omega), if_neg (by omega), List.getElem_append_left (by simp; omega), List.getElem_take]
      · rw [List.getElem_append_right (by simp; omega)]
        simp only [List.length_take, Nat.min_eq_left (show m ≤ l.length by omega)]
        by_cases h4 : a = m
        · subst h4; simp
        · by_cases h5 : a = m + 1
          · subst h5; simp
          · rw [if_neg h5, if_neg h4]
            obtain ⟨q, rfl⟩ : ∃ q, a = m + 2 + q := ⟨a - (m + 2), by omega⟩
            simp only [show m + 2 + q - m = q + 1 + 1 by omega, List.getElem_cons_succ, List.getElem_drop]
  have e2 : l = l.take m ++ (l[m]'(by omega)) :: l[m + 1] :: l.drop (m + 2) := by
    rw [← List.drop_eq_getElem_cons, ← List.drop_eq_getElem_cons, List.take_append_drop]
  show (swapL l (m + 1) (l[m]'(by omega)) l[m + 1]).Perm l
  rw [e]
  conv => rhs; rw [e2]
  exact List.Perm.append_left _ (List.Perm.swap _ _ _)
end

end Go.Proofs.YtbkmfomdhjhkpaaGreat

namespace Go.Proofs.YtbkmfomdhjhkpaaGreat
open Go.RowKit Go.Maps

def idAt (l : List RD) (a : Nat) : Int := (l.getD a default).r.id
/-- A list in new memory, put in order. -/
def OrdPost (w : World) (l : List RD) (e : Ending) (w' : World) : Prop := ∃ A' c' ol, e = .returned (.slice A' l.length c') ∧ Hid (ol.Perm l ∧ ol.Pairwise (fun x y => x.r.id ≤ y.r.id) ∧ Recs w' w'.heap.size A' ol) ∧ Below w.heap.size w w'
structure OW (l : List RD) (w W : World) (A1 : Option Addr) (c1 : Nat) (ml : List RD) : Prop where
  perm : ml.Perm l
  own : W.ownsRow w.heap.size 47 8 (.slice A1 l.length c1) l.length (ml.flatMap recCells)
  bel : Below w.heap.size w W

theorem idAt_get (l : List RD) (a : Nat) (h : a < l.length) : idAt l a = l[a].r.id := by
  unfold idAt; rw [List.getD_eq_getElem?_getD, List.getElem?_eq_getElem h]; rfl
theorem InsInv.congr {f f' : Nat → Int} {i k : Nat} (h : InsInv f i k) (e : ∀ a, a ≤ i → f a = f' a) : InsInv f' i k := fun a b h1 h2 h3 => by
  rw [← e a (by omega), ← e b h2]; exact h a b h1 h2 h3
theorem ord_next {l ml : List RD} {w V : World} {g c1 m i : Nat} {x0 x1 : RD} (hp : ml.Perm l) (ownV : V.ownsRow w.heap.size 47 8 (.slice (some ⟨g, 0, none⟩) l.length c1) l.length (ml.flatMap recCells)) (belV : Below w.heap.size w V)
    (hm : m + 1 < ml.length) (hi : i < ml.length) (_hmi : m + 1 ≤ i) (h0 : ml[m] = x0) (h1 : ml[m + 1] = x1) (hlt : x1.r.id < x0.r.id) (hI : InsInv (idAt ml) i (m + 1)) :
    ∃ ml', OW l w ((((((((((((((((V.setCell ⟨g, (m + 1) * 8, none⟩ (.int .i64 x0.r.id)).setCell ⟨g, (m + 1) * 8 + 1, none⟩ (.slice x0.A x0.r.names.length x0.c)).setCell ⟨g, (m + 1) * 8 + 2, none⟩ (.int .u8 x0.r.suf)).setCell ⟨g, (m + 1) * 8 + 3, none⟩ (.int .i64 x0.r.lo)).setCell ⟨g, (m + 1) * 8 + 4, none⟩ (.int .i64 x0.r.hi)).setCell ⟨g, (m + 1) * 8 + 5, none⟩ (.string x0.r.num)).setCell ⟨g, (m + 1) * 8 + 6, none⟩ (.bool x0.r.twin)).setCell ⟨g, (m + 1) * 8 + 7, none⟩ (.slice x0.D x0.r.stays.length x0.d)).setCell ⟨g, m * 8, none⟩ (.int .i64 x1.r.id)).setCell ⟨g, m * 8 + 1, none⟩ (.slice x1.A x1.r.names.length x1.c)).setCell ⟨g, m * 8 + 2, none⟩ (.int .u8 x1.r.suf)).setCell ⟨g, m * 8 + 3, none⟩ (.int .i64 x1.r.lo)).setCell ⟨g, m * 8 + 4, none⟩ (.int .i64 x1.r.hi)).setCell ⟨g, m * 8 + 5, none⟩ (.string x1.r.num)).setCell ⟨g, m * 8 + 6, none⟩ (.bool x1.r.twin)).setCell ⟨g, m * 8 + 7, none⟩ (.slice x1.D x1.r.stays.length x1.d)) (some ⟨g, 0, none⟩) c1 ml' ∧ InsInv (idAt ml') i m := by
  have hgb : w.heap.size ≤ g := (ownV.lt g rfl).1
  subst h0 h1
  refine ⟨swapL ml (m + 1) (ml[m]'(by omega)) ml[m + 1], ⟨(swapL_perm ml (m + 1) (by omega) hm).trans hp, ?_, ((((((((((((((((belV.setCell (by show w.heap.size ≤ g; omega) _).setCell (by show w.heap.size ≤ g; omega) _).setCell (by show w.heap.size ≤ g; omega) _).setCell (by show w.heap.size ≤ g; omega) _).setCell (by show w.heap.size ≤ g; omega) _).setCell (by show w.heap.size ≤ g; omega) _).setCell (by show w.heap.size ≤ g; omega) _).setCell (by show w.heap.size ≤ g; omega) _).setCell (by show w.heap.size ≤ g; omega) _).setCell (by show w.heap.size ≤ g; omega) _).setCell (by show w.heap.size ≤ g; omega) _).setCell (by show w.heap.size ≤ g; omega) _).setCell (by show w.heap.size ≤ g; omega) _).setCell (by show w.heap.size ≤ g; omega) _).setCell (by show w.heap.size ≤ g; omega) _).setCell (by show w.heap.size ≤ g; omega) _)⟩, ?_⟩
  · have o := ((((((((((((((((ownV.stored ((m + 1) * 8) (.int .i64 ml[m].r.id)).1.stored ((m + 1) * 8 + 1) (.slice ml[m].A ml[m].r.names.length ml[m].c)).1.stored ((m + 1) * 8 + 2) (.int .u8 ml[m].r.suf)).1.stored ((m + 1) * 8 + 3) (.int .i64 ml[m].r.lo)).1.stored ((m + 1) * 8 + 4) (.int .i64 ml[m].r.hi)).1.stored ((m + 1) * 8 + 5) (.string ml[m].r.num)).1.stored ((m + 1) * 8 + 6) (.bool ml[m].r.twin)).1.stored ((m + 1) * 8 + 7) (.slice ml[m].D ml[m].r.stays.length ml[m].d)).1.stored (m * 8) (.int .i64 ml[m + 1].r.id)).1.stored (m * 8 + 1) (.slice ml[m + 1].A ml[m + 1].r.names.length ml[m + 1].c)).1.stored (m * 8 + 2) (.int .u8 ml[m + 1].r.suf)).1.stored (m * 8 + 3) (.int .i64 ml[m + 1].r.lo)).1.stored (m * 8 + 4) (.int .i64 ml[m + 1].r.hi)).1.stored (m * 8 + 5) (.string ml[m + 1].r.num)).1.stored (m * 8 + 6) (.bool ml[m + 1].r.twin)).1.stored (m * 8 + 7) (.slice ml[m + 1].D ml[m + 1].r.stays.length ml[m + 1].d)).1
    have e1 := recCells_set ml (m + 1) hm (ml[m]'(by omega))
    have e2 := recCells_set (ml.set (m + 1) (ml[m]'(by omega))) m (by simp; omega) ml[m + 1]
    rw [e1] at o
    rw [e2] at o
    exact o
  · have h2 := ins_step (f := idAt ml) (i := i) (k := m + 1) (by omega) (by rw [Nat.add_sub_cancel, idAt_get ml m (by omega), idAt_get ml (m + 1) hm]; exact hlt) hI
    rw [Nat.add_sub_cancel] at h2
    refine h2.congr fun a ha => ?_
    have hg := swapL_get ml (m + 1) (by omega) hm a (by omega)
    simp only [Nat.add_sub_cancel] at hg
    unfold swp
    simp only [Nat.add_sub_cancel]
    rw [idAt_get (swapL ml (m + 1) (ml[m]'(by omega)) ml[m + 1]) a (by rw [swapL_len]; omega), hg, idAt_get ml m (by omega), idAt_get ml (m + 1) hm, idAt_get ml a (by omega)]
    split
    · rfl
    · split <;> rfl

theorem ow_drew {l : List RD} {w W : World} {A1 : Option Addr} {c1 : Nat} {Q : List RD → Prop} (h : ∃ ml, OW l w W A1 c1 ml ∧ Q ml) : ∃ ml, OW l w W.drew A1 c1 ml ∧ Q ml := by
  obtain ⟨ml, ⟨h1, h2, h3⟩, hq⟩ := h
  exact ⟨ml, ⟨h1, own_below h2 (Below.refl _ _).drew, h3.drew⟩, hq⟩

set_option maxRecDepth 100000 in
set_option maxHeartbeats 4000000 in
theorem ordered_any (l : List RD) (A : Option Addr) (c : Nat) (w : World) (h : Recs w w.heap.size A l) (hl : l.length ≤ 1000) :
    Calls Tryz.prog 33 #[.slice A l.length c] w (OrdPost w l) := by
  obtain ⟨i0, hi, hz0, hz1, hz2⟩ := info_parts recInfo
  have hown0 : (w.alloc (.cells #[] 47)).ownsRow w.heap.size 47 8 (.slice (some ⟨w.heap.size, 0, none⟩) 0 0) 0 [] := by
    simpa using World.ownsRow_made (base := w.heap.size) (e := 47) (size := 8) w #[] 0 (Nat.le_refl _) (by simp [maxLen]) (by simp)
  have h0 := h.later ((Below.refl _ _).alloc (Nat.le_refl _) (.cells #[] 47))
  go_enter Tryz.func33, Tryz.ntmps33
  go_wp2_with (at_builtin; refine wpList_append_src _ rfl (.tmp 6) (.tmp 7) 24 rfl w.heap.size 47 i0 _ 8 104 Tryz.underlying24 hi hz0 hz1 hz2 rfl (by decide) _ 0 [] rfl ?a1 A l.length c (l.flatMap recCells) rfl ?a2 ?a3 ?a4 ?a5 ?a6 ?a7 ?a8 ?_)
  case a1 => exact hown0
  case a2 => exact recCells_len l
  case a3 => rintro rfl; exact h.none_
  case a4 => exact h0.news
  case a5 => exact recCells_one l
  case a6 => unfold maxLen; omega
  case a7 => omega
  case a8 => simp
  intro v1 w1 hown1 hg1 _
  obtain ⟨A1, c1, rfl⟩ := own_slice hown1
  have hb1 : Below w.heap.size w w1 := ((Below.refl _ _).alloc (Nat.le_refl _) _).grown hg1 (by simp) (by intro k hk; simp [Value.ownBlock] at hk; omega)
  have HW : Hid (∃ ml, OW l w w1 A1 c1 ml ∧ ∀ a b, a < b → b < 1 → idAt ml a ≤ idAt ml b) := Lib.hid ⟨l, ⟨List.Perm.refl _, hown1, hb1⟩, fun a b h1 h2 => by omega⟩
  clear hown1 hg1 hown0 h0 hb1
  go_wp2_with fail
  go_loopw [4, 5] (fun ii kk wr => ∃ i : Nat, 1 ≤ i ∧ i ≤ 1001 ∧ ii = .int .i64 i ∧ Hid (∃ ml, OW l w wr A1 c1 ml ∧ ∀ a b, a < b → b < i → b < l.length → idAt ml a ≤ idAt ml b)) (fun ii _ _ => l.length + 1 - (intOf ii).toNat)
  case atStart => exact ⟨1, by omega, by omega, rfl, by obtain ⟨ml, h1, h2⟩ := HW.out; exact Lib.hid ⟨ml, h1, fun a b x y _ => h2 a b x y⟩⟩
  case round =>
    obtain ⟨i, hi1, hi2, rfl, hT⟩ := hrel
    by_cases hlt : i < l.length
    · have hil : (i : Int) < (l.length : Int) := by omega
      obtain ⟨wo, rfl⟩ : ∃ wo : World, wo = wr := ⟨_, rfl⟩
      go_wp2_with fail
      go_loopw [5] (fun kk wr => ∃ (k : Nat) (z : Int), k ≤ i ∧ z = k ∧ kk = .int .i64 z ∧ Hid (∃ ml, OW l w wr A1 c1 ml ∧ InsInv (idAt ml) i k)) (fun kk _ => (intOf kk).toNat)
      case atStart => exact ⟨i, i, Nat.le_refl _, rfl, rfl, by obtain ⟨ml, h1, h2⟩ := hT.out; exact Lib.hid ⟨ml, h1, ins_start fun a b x y => h2 a b x y (by omega)⟩⟩
      case round =>
        obtain ⟨k, z, hk, hzk, rfl, hT2⟩ := hrel
        clear hT HW
        rcases Nat.eq_zero_or_pos k with rfl | hkp
        · have HE : Hid (∃ ml, OW l w wr A1 c1 ml ∧ ∀ a b, a < b → b < i + 1 → b < l.length → idAt ml a ≤ idAt ml b) := by
            obtain ⟨ml, h1, h2⟩ := hT2.out
            exact Lib.hid ⟨ml, h1, fun a b x y _ => ins_end h2 (.inl rfl) a b x y⟩
          obtain rfl : z = 0 := by simpa using hzk
          have hd : decide ((0 : Int) < 0) = false := by decide
          clear hzk
          go_wp2_with fail
          go_quiet (fail)
          go_wp2_with fail
          go_roundw
          case rel =>
            obtain ⟨ml2, o1, o2⟩ := HE.out
            exact ⟨i + 1, by omega, by omega, by go_num, Lib.hid ⟨ml2, ⟨o1.perm, own_below o1.own (below_drewN (Below.refl _ _) _), below_drewN o1.bel _⟩, o2⟩⟩
          case measure => simp [intOf]; omega
        · obtain ⟨m, rfl⟩ : ∃ m, k = m + 1 := ⟨k - 1, by omega⟩
          obtain rfl : z = (m : Int) + 1 := by omega
          clear hzk
          obtain ⟨ml, hO, hI⟩ := hT2.out
          have hml : ml.length = l.length := hO.perm.length_eq
          have hlen8 := recCells_len ml
          have hown := hO.own
          obtain ⟨g, cap, hv, hgb, hglt⟩ := hown.form (by omega)
          simp only [Value.slice.injEq, true_and] at hv
          obtain ⟨rfl, rfl⟩ := hv
          have G1 := recCells_get ml (m + 1) (by omega)
          have G0 := recCells_get ml m (by omega)
          generalize hx1 : ml[m + 1] = x1 at G1
          generalize hx0 : ml[m] = x0 at G0
          have a0 : wr.cell? ⟨g, (m + 1) * 8, none⟩ = some (.int .i64 x1.r.id) := (hown.cellAt ((m + 1) * 8) (by omega)).trans ((G1) 0 (by omega))
          have fa0 := hown.frozenAt ((m + 1) * 8)
          have a1 : wr.cell? ⟨g, (m + 1) * 8 + 1, none⟩ = some (.slice x1.A x1.r.names.length x1.c) := (hown.cellAt ((m + 1) * 8 + 1) (by omega)).trans ((G1) 1 (by omega))
          have fa1 := hown.frozenAt ((m + 1) * 8 + 1)
          have a2 : wr.cell? ⟨g, (m + 1) * 8 + 2, none⟩ = some (.int .u8 x1.r.suf) := (hown.cellAt ((m + 1) * 8 + 2) (by omega)).trans ((G1) 2 (by omega))
          have fa2 := hown.frozenAt ((m + 1) * 8 + 2)
          have a3 : wr.cell? ⟨g, (m + 1) * 8 + 3, none⟩ = some (.int .i64 x1.r.lo) := (hown.cellAt ((m + 1) * 8 + 3) (by omega)).trans ((G1) 3 (by omega))
          have fa3 := hown.frozenAt ((m + 1) * 8 + 3)
          have a4 : wr.cell? ⟨g, (m + 1) * 8 + 4, none⟩ = some (.int .i64 x1.r.hi) := (hown.cellAt ((m + 1) * 8 + 4) (by omega)).trans ((G1) 4 (by omega))
          have fa4 := hown.frozenAt ((m + 1) * 8 + 4)
          have a5 : wr.cell? ⟨g, (m + 1) * 8 + 5, none⟩ = some (.string x1.r.num) := (hown.cellAt ((m + 1) * 8 + 5) (by omega)).trans ((G1) 5 (by omega))
          have fa5 := hown.frozenAt ((m + 1) * 8 + 5)
          have a6 : wr.cell? ⟨g, (m + 1) * 8 + 6, none⟩ = some (.bool x1.r.twin) := (hown.cellAt ((m + 1) * 8 + 6) (by omega)).trans ((G1) 6 (by omega))
          have fa6 := hown.frozenAt ((m + 1) * 8 + 6)
          have a7 : wr.cell? ⟨g, (m + 1) * 8 + 7, none⟩ = some (.slice x1.D x1.r.stays.length x1.d) := (hown.cellAt ((m + 1) * 8 + 7) (by omega)).trans ((G1) 7 (by omega))
          have fa7 := hown.frozenAt ((m + 1) * 8 + 7)
          have b0 : wr.cell? ⟨g, m * 8, none⟩ = some (.int .i64 x0.r.id) := (hown.cellAt (m * 8) (by omega)).trans ((G0) 0 (by omega))
          have fb0 := hown.frozenAt (m * 8)
          have b1 : wr.cell? ⟨g, m * 8 + 1, none⟩ = some (.slice x0.A x0.r.names.length x0.c) := (hown.cellAt (m * 8 + 1) (by omega)).trans ((G0) 1 (by omega))
          have fb1 := hown.frozenAt (m * 8 + 1)
          have b2 : wr.cell? ⟨g, m * 8 + 2, none⟩ = some (.int .u8 x0.r.suf) := (hown.cellAt (m * 8 + 2) (by omega)).trans ((G0) 2 (by omega))
          have fb2 := hown.frozenAt (m * 8 + 2)
          have b3 : wr.cell? ⟨g, m * 8 + 3, none⟩ = some (.int .i64 x0.r.lo) := (hown.cellAt (m * 8 + 3) (by omega)).trans ((G0) 3 (by omega))
          have fb3 := hown.frozenAt (m * 8 + 3)
          have b4 : wr.cell? ⟨g, m * 8 + 4, none⟩ = some (.int .i64 x0.r.hi) := (hown.cellAt (m * 8 + 4) (by omega)).trans ((G0) 4 (by omega))
          have fb4 := hown.frozenAt (m * 8 + 4)
          have b5 : wr.cell? ⟨g, m * 8 + 5, none⟩ = some (.string x0.r.num) := (hown.cellAt (m * 8 + 5) (by omega)).trans ((G0) 5 (by omega))
          have fb5 := hown.frozenAt (m * 8 + 5)
          have b6 : wr.cell? ⟨g, m * 8 + 6, none⟩ = some (.bool x0.r.twin) := (hown.cellAt (m * 8 + 6) (by omega)).trans ((G0) 6 (by omega))
          have fb6 := hown.frozenAt (m * 8 + 6)
          have b7 : wr.cell? ⟨g, m * 8 + 7, none⟩ = some (.slice x0.D x0.r.stays.length x0.d) := (hown.cellAt (m * 8 + 7) (by omega)).trans ((G0) 7 (by omega))
          have fb7 := hown.frozenAt (m * 8 + 7)
          have Hx1 := Lib.hid hx1
          have Hx0 := Lib.hid hx0
          have HO := Lib.hid hO
          have HG1 := Lib.hid G1
          have HG0 := Lib.hid G0
          have HI := Lib.hid hI
          have Hml := Lib.hid hml
          clear hx1 hx0 hO hI hlen8 hown G1 G0 hT2 fa0 fa1 fa2 fa3 fa4 fa5 fa6 fa7 fb0 fb1 fb2 fb3 fb4 fb5 fb6 fb7
          have hm1 : (m : Int) + 1 < (l.length : Int) := by omega
          have hm0 : (m : Int) < (l.length : Int) := by omega
          by_cases hq : x1.r.id < x0.r.id
          · have e1 : ((m : Int) + 1).toNat = m + 1 := by omega
            have e2 : IntKind.i64.wrap ((m : Int) + 1 - 1) = (m : Int) := by rw [show (m : Int) + 1 - 1 = m by omega]; exact IntWalk.i64_in _ (by omega)
            have e3 : ((m : Int) + 1 - 1) = (m : Int) := by omega
            have hg0 : decide ((0 : Int) < (m : Int) + 1) = true := decide_eq_true (by omega)
            have e4 : (0 : Int) < (m : Int) + 1 := by omega
            have e5 : (m : Int) + 1 < (l.length : Int) := by omega
            go_wp2_with fail
            go_quiet (fail)
            go_wp2_with fail
            have ownV := own_below HO.out.own (below_drewN (Below.refl wr.heap.size wr) nq)
            have belV : Below w.heap.size w (wr.drewN nq) := below_drewN HO.out.bel nq
            clear a0 a1 a2 a3 a4 a5 a6 a7 b0 b1 b2 b3 b4 b5 b6 b7
            generalize wr.drewN nq = V at *
            have a0 : V.cell? ⟨g, (m + 1) * 8, none⟩ = some (.int .i64 x1.r.id) := (ownV.cellAt ((m + 1) * 8) (by omega)).trans (HG1.out 0 (by omega))
            have fa0 := ownV.frozenAt ((m + 1) * 8)
            have a1 : V.cell? ⟨g, (m + 1) * 8 + 1, none⟩ = some (.slice x1.A x1.r.names.length x1.c) := (ownV.cellAt ((m + 1) * 8 + 1) (by omega)).trans (HG1.out 1 (by omega))
            have fa1 := ownV.frozenAt ((m + 1) * 8 + 1)
            have a2 : V.cell? ⟨g, (m + 1) * 8 + 2, none⟩ = some (.int .u8 x1.r.suf) := (ownV.cellAt ((m + 1) * 8 + 2) (by omega)).trans (HG1.out 2 (by omega))
            have fa2 := ownV.frozenAt ((m + 1) * 8 + 2)
            have a3 : V.cell? ⟨g, (m + 1) * 8 + 3, none⟩ = some (.int .i64 x1.r.lo) := (ownV.cellAt ((m + 1) * 8 + 3) (by omega)).trans (HG1.out 3 (by omega))
            have fa3 := ownV.frozenAt ((m + 1) * 8 + 3)
            have a4 : V.cell? ⟨g, (m + 1) * 8 + 4, none⟩ = some (.int .i64 x1.r.hi) := (ownV.cellAt ((m + 1) * 8 + 4) (by omega)).trans (HG1.out 4 (by omega))
            have fa4 := ownV.frozenAt ((m + 1) * 8 + 4)
            have a5 : V.cell? ⟨g, (m + 1) * 8 + 5, none⟩ = some (.string x1.r.num) := (ownV.cellAt ((m + 1) * 8 + 5) (by omega)).trans (HG1.out 5 (by omega))
            have fa5 := ownV.frozenAt ((m + 1) * 8 + 5)
            have a6 : V.cell? ⟨g, (m + 1) * 8 + 6, none⟩ = some (.bool x1.r.twin) := (ownV.cellAt ((m + 1) * 8 + 6) (by omega)).trans (HG1.out 6 (by omega))
            have fa6 := ownV.frozenAt ((m + 1) * 8 + 6)
            have a7 : V.cell? ⟨g, (m + 1) * 8 + 7, none⟩ = some (.slice x1.D x1.r.stays.length x1.d) := (ownV.cellAt ((m + 1) * 8 + 7) (by omega)).trans (HG1.out 7 (by omega))
            have fa7 := ownV.frozenAt ((m + 1) * 8 + 7)
            have b0 : V.cell? ⟨g, m * 8, none⟩ = some (.int .i64 x0.r.id) := (ownV.cellAt (m * 8) (by omega)).trans (HG0.out 0 (by omega))
            have fb0 := ownV.frozenAt (m * 8)
            have b1 : V.cell? ⟨g, m * 8 + 1, none⟩ = some (.slice x0.A x0.r.names.length x0.c) := (ownV.cellAt (m * 8 + 1) (by omega)).trans (HG0.out 1 (by omega))
            have fb1 := ownV.frozenAt (m * 8 + 1)
            have b2 : V.cell? ⟨g, m * 8 + 2, none⟩ = some (.int .u8 x0.r.suf) := (ownV.cellAt (m * 8 + 2) (by omega)).trans (HG0.out 2 (by omega))
            have fb2 := ownV.frozenAt (m * 8 + 2)
            have b3 : V.cell? ⟨g, m * 8 + 3, none⟩ = some (.int .i64 x0.r.lo) := (ownV.cellAt (m * 8 + 3) (by omega)).trans (HG0.out 3 (by omega))
            have fb3 := ownV.frozenAt (m * 8 + 3)
            have b4 : V.cell? ⟨g, m * 8 + 4, none⟩ = some (.int .i64 x0.r.hi) := (ownV.cellAt (m * 8 + 4) (by omega)).trans (HG0.out 4 (by omega))
            have fb4 := ownV.frozenAt (m * 8 + 4)
            have b5 : V.cell? ⟨g, m * 8 + 5, none⟩ = some (.string x0.r.num) := (ownV.cellAt (m * 8 + 5) (by omega)).trans (HG0.out 5 (by omega))
            have fb5 := ownV.frozenAt (m * 8 + 5)
            have b6 : V.cell? ⟨g, m * 8 + 6, none⟩ = some (.bool x0.r.twin) := (ownV.cellAt (m * 8 + 6) (by omega)).trans (HG0.out 6 (by omega))
            have fb6 := ownV.frozenAt (m * 8 + 6)
            have b7 : V.cell? ⟨g, m * 8 + 7, none⟩ = some (.slice x0.D x0.r.stays.length x0.d) := (ownV.cellAt (m * 8 + 7) (by omega)).trans (HG0.out 7 (by omega))
            have fb7 := ownV.frozenAt (m * 8 + 7)
            have OwnV := Lib.hid ownV
            have hne : (m + 1) * 8 ≠ m * 8 := by omega
            clear ownV
            go_region
            go_wp2_with fail
            go_roundw
            case rel =>
              refine ⟨m, m, by omega, rfl, by first | rfl | go_num, ?_⟩
              exact Lib.hid (ow_drew (ord_next HO.out.perm OwnV.out belV (by rw [Hml.out]; omega) (by rw [Hml.out]; exact hlt) hk Hx0.out Hx1.out hq HI.out))
            case measure => simp [intOf]
          · have HE : Hid (∃ ml, OW l w wr (some ⟨g, 0, none⟩) c1 ml ∧ ∀ a b, a < b → b < i + 1 → b < l.length → idAt ml a ≤ idAt ml b) :=
              Lib.hid ⟨ml, HO.out, fun a b x y _ => ins_end HI.out (.inr (by
                rw [Nat.add_sub_cancel, idAt_get ml m (by omega), idAt_get ml (m + 1) (by omega), Hx0.out, Hx1.out]; omega)) a b x y⟩
            have e1 : ((m : Int) + 1).toNat = m + 1 := by omega
            have e2 : IntKind.i64.wrap ((m : Int) + 1 - 1) = (m : Int) := by rw [show (m : Int) + 1 - 1 = m by omega]; exact IntWalk.i64_in _ (by omega)
            have e3 : ((m : Int) + 1 - 1) = (m : Int) := by omega
            have hg0 : decide ((0 : Int) < (m : Int) + 1) = true := decide_eq_true (by omega)
            have e4 : (0 : Int) < (m : Int) + 1 := by omega
            have e5 : (m : Int) + 1 < (l.length : Int) := by omega
            go_wp2_with fail
            go_quiet (fail)
            go_wp2_with fail
            go_roundw
            case rel =>
              obtain ⟨ml2, o1, o2⟩ := HE.out
              exact ⟨i + 1, by omega, by omega, by go_num, Lib.hid ⟨ml2, ⟨o1.perm, own_below o1.own (below_drewN (Below.refl _ _) _), below_drewN o1.bel _⟩, o2⟩⟩
            case measure => simp [intOf]; omega
    · have hil : ¬ (i : Int) < (l.length : Int) := by omega
      clear HW
      go_wp2_with fail
      go_ret
      obtain ⟨ml, hO, hS⟩ := hT.out
      have hml : ml.length = l.length := hO.perm.length_eq
      refine ⟨A1, c1, ml, rfl, Lib.hid ⟨hO.perm, ?_, ?_⟩, hO.bel⟩
      · rw [List.pairwise_iff_getElem]
        intro a b ha hb hab
        have := hS a b hab (by omega) (by omega)
        rwa [idAt_get ml a ha, idAt_get ml b hb] at this
      · have hown := hO.own
        rw [← hml] at hown
        refine recs_own hown fun z hz => ?_
        obtain ⟨k, hk, rfl⟩ := List.getElem_of_mem (hO.perm.mem_iff.1 hz)
        obtain ⟨_, _, _, _, _, h3, h4⟩ := h k hk
        exact ⟨h3.later hO.bel, h4⟩

end Go.Proofs.YtbkmfomdhjhkpaaGreat

namespace Go.Proofs.YtbkmfomdhjhkpaaGreat
open Go.RowKit Go.Maps

def greatL (l : List RD) : Bool := decide (30 < l.length) || !(l.all fun x => !greatB x.r)

set_option maxRecDepth 100000 in
set_option maxHeartbeats 1000000 in
theorem great_any (l : List RD) (A : Option Addr) (c : Nat) (w : World) (h : Recs w w.heap.size A l) (hl : l.length ≤ maxLen) :
    Calls Tryz.prog 10 #[.slice A l.length c] w fun e w' => e = .returned (.bool (greatL l)) ∧ Below w.heap.size w w' := by
  unfold maxLen at hl
  by_cases h30 : 30 < l.length
  · have h1 : (30 : Int) < (l.length : Int) := by omega
    have HE : Hid (greatL l = true) := Lib.hid (by simp [greatL, h30])
    go_enter Tryz.func10, Tryz.ntmps10
    go_wp2_with fail
    go_ret
    exact ⟨ret_bool HE.out.symm, Below.refl _ _⟩
  · have h1 : ¬ (30 : Int) < (l.length : Int) := by omega
    have HE : Hid (greatL l = !(l.all fun x => !greatB x.r)) := Lib.hid (by simp [greatL, h30])
    go_enter Tryz.func10, Tryz.ntmps10
    go_wp2_with fail
    go_loopw [3] (fun ii wr => ∃ i : Nat, i ≤ l.length ∧ ii = .int .i64 i ∧ Hid ((l.take i).all (fun x => !greatB x.r) = true) ∧ Below w.heap.size w wr) (fun ii _ => l.length - (intOf ii).toNat)
    case atStart => exact ⟨0, Nat.zero_le _, rfl, Lib.hid (by simp), Below.refl _ _⟩
    case round =>
      obtain ⟨i, hi, rfl, hall, hbel⟩ := hrel
      by_cases hlt : i < l.length
      · have hil : (i : Int) < (l.length : Int) := by omega
        obtain ⟨b, off, rfl, hb, C, hr, _⟩ := (h.later hbel).eight hlt
        have HN := Lib.hid (fun hf => all_next (fun x : RD => !greatB x.r) l i hlt hall.out hf)
        have HS := Lib.hid (all_stop (fun x : RD => !greatB x.r) l i hlt)
        generalize l[i] = x at *
        obtain ⟨c0, c1, c2, c3, c4, c5, c6, c7⟩ := C
        have hb1 := hbel.alloc hbel.size (.cells #[.int .i64 x.r.id, .slice x.A x.r.names.length x.c, .int .u8 x.r.suf, .int .i64 x.r.lo, .int .i64 x.r.hi, .string x.r.num, .bool x.r.twin, .slice x.D x.r.stays.length x.d] 47)
        cases hv : greatB x.r with
        | false =>
          have HV := Lib.hid (hv ▸ greatOne_any x.A x.D x.c x.d x.r wr hr)
          have HN2 := Lib.hid (HN.out (by simp [hv]))
          clear HN HS hv hall
          go_wp2_with (go_at_call 28; (with_reducible refine (HV.out).mono ?_); rintro e w1 ⟨rfl, rfl⟩)
          go_roundw
          case rel => exact ⟨i + 1, by omega, by go_num, HN2, hb1⟩
          case measure => simp [intOf]; omega
        | true =>
          have HV := Lib.hid (hv ▸ greatOne_any x.A x.D x.c x.d x.r wr hr)
          have HS2 := Lib.hid (HS.out (by simp [hv]))
          clear HN HS hv hall
          go_wp2_with (go_at_call 28; (with_reducible refine (HV.out).mono ?_); rintro e w1 ⟨rfl, rfl⟩)
          go_ret
          exact ⟨ret_bool (by rw [HE.out, HS2.out]; rfl), hb1⟩
      · have hil : ¬ (i : Int) < (l.length : Int) := by omega
        have hok := Lib.hid (all_end (fun x : RD => !greatB x.r) l i hlt hall.out)
        clear hall
        go_wp2_with fail
        go_ret
        exact ⟨ret_bool (by rw [HE.out, hok.out]; rfl), hbel⟩

set_option maxRecDepth 100000 in
set_option maxHeartbeats 2000000 in
theorem refRecords_any (l : List RD) (A : Option Addr) (c : Nat) (w : World) (h : Recs w w.heap.size A l) (hl : l.length ≤ maxLen) :
    Calls Tryz.prog 27 #[.slice A l.length c] w fun e w' => e = .returned (.int .i64 (listE l)) ∧ Below w.heap.size w w' := by
  unfold maxLen at hl
  by_cases h24 : 24 < l.length
  · have h1 : (24 : Int) < (l.length : Int) := by omega
    have HE : Hid (listE l = 4) := Lib.hid (by rw [listE, if_pos h24])
    go_enter Tryz.func27, Tryz.ntmps27
    go_wp2_with fail
    go_ret
    exact ⟨ret_int HE.out.symm, Below.refl _ _⟩
  · have h1 : ¬ (24 : Int) < (l.length : Int) := by omega
    have HE : Hid (listE l = if recsB l = true then (if (idsOf l).Nodup then 0 else 12) else 11) := Lib.hid (by rw [listE, if_neg h24])
    go_enter Tryz.func27, Tryz.ntmps27
    go_wp2_with fail
    go_loopw [3] (fun ii wr => ∃ i : Nat, i ≤ l.length ∧ ii = .int .i64 i ∧ Hid ((l.take i).all (fun x => recB x.r) = true) ∧ Below w.heap.size w wr) (fun ii _ => l.length - (intOf ii).toNat)
    case atStart => exact ⟨0, Nat.zero_le _, rfl, Lib.hid (by simp), Below.refl _ _⟩
    case round =>
      obtain ⟨i, hi, rfl, hall, hbel⟩ := hrel
      by_cases hlt : i < l.length
      · have hil : (i : Int) < (l.length : Int) := by omega
        obtain ⟨b, off, rfl, hb, C, hr, _⟩ := (h.later hbel).eight hlt
        have HN := Lib.hid (fun hf => all_next (fun x : RD => recB x.r) l i hlt hall.out hf)
        have HS := Lib.hid (all_stop (fun x : RD => recB x.r) l i hlt)
        generalize l[i] = x at *
        obtain ⟨c0, c1, c2, c3, c4, c5, c6, c7⟩ := C
        cases hv : recB x.r with
        | true =>
          have HV := Lib.hid (hv ▸ refRecord_any x.A x.D x.c x.d x.r wr hr)
          have HN2 := Lib.hid (HN.out hv)
          clear HN HS hv hall
          go_wp2_with (go_at_call 21; (with_reducible refine (HV.out).mono ?_); rintro e w1 ⟨rfl, e1⟩)
          go_roundw
          case rel => exact ⟨i + 1, by omega, by go_num, HN2, hbel.trans (e1.mono hbel.size)⟩
          case measure => simp [intOf]; omega
        | false =>
          have HV := Lib.hid (hv ▸ refRecord_any x.A x.D x.c x.d x.r wr hr)
          have HS2 := Lib.hid (HS.out hv)
          clear HN HS hv hall
          go_wp2_with (go_at_call 21; (with_reducible refine (HV.out).mono ?_); rintro e w1 ⟨rfl, e1⟩)
          go_ret
          exact ⟨ret_int (by rw [HE.out, recsB, HS2.out]; rfl), hbel.trans (e1.mono hbel.size)⟩
      · have hil : ¬ (i : Int) < (l.length : Int) := by omega
        have hok := all_end (fun x : RD => recB x.r) l i hlt hall.out
        have HE2 : Hid (listE l = if (idsOf l).Nodup then 0 else 12) := Lib.hid (by rw [HE.out, if_pos (show recsB l = true from hok)])
        clear HE hall hok
        obtain ⟨wo, rfl⟩ : ∃ wo : World, wo = wr := ⟨_, rfl⟩
        have hlen : (idsOf l).length = l.length := by simp [idsOf]
        have Hlen := Lib.hid hlen
        clear hlen
        go_wp2_with fail
        go_loopw [4, 5] (fun ii kk wr => ∃ i : Nat, i ≤ l.length ∧ ii = .int .i64 i ∧ Hid (((idsOf l).take i).Nodup) ∧ Below w.heap.size w wr) (fun ii _ _ => l.length - (intOf ii).toNat)
        case atStart => exact ⟨0, Nat.zero_le _, rfl, Lib.hid (by simp), hbel⟩
        case round =>
          obtain ⟨i, hi, rfl, hnd, hb2⟩ := hrel
          by_cases hlt : i < l.length
          · have hil : (i : Int) < (l.length : Int) := by omega
            have hx : (idsOf l)[i]'(by rw [Hlen.out]; exact hlt) = l[i].r.id := by simp [idsOf]
            have HN := Lib.hid (nodup_next (l := idsOf l) (k := i) (by rw [Hlen.out]; exact hlt) hnd.out)
            have HS := Lib.hid (nodup_stop (l := idsOf l) (k := i) (by rw [Hlen.out]; exact hlt))
            rw [hx] at HN HS
            clear hx hnd
            obtain ⟨wq, rfl⟩ : ∃ wq : World, wq = wr := ⟨_, rfl⟩
            go_wp2_with fail
            go_loopw [5] (fun kk wr => ∃ k : Nat, k ≤ i ∧ kk = .int .i64 k ∧ Hid (l[i].r.id ∉ (idsOf l).take k) ∧ Below w.heap.size w wr) (fun kk _ => i - (intOf kk).toNat)
            case atStart => exact ⟨0, Nat.zero_le _, rfl, Lib.hid (by simp), hb2⟩
            case round =>
              obtain ⟨k, hk, rfl, hmem, hb3⟩ := hrel
              by_cases hki : k < i
              · have hkl : (k : Int) < (i : Int) := by omega
                have hkl2 : (k : Int) < (l.length : Int) := by omega
                obtain ⟨b, off, rfl, hb, C, _, _⟩ := (h.later hb3).eight hlt
                obtain ⟨b', off', he, _, C', _, _⟩ := (h.later hb3).eight (show k < l.length by omega)
                cases he
                have d0 := C.c0
                have d1 := C'.c0
                have hy : (idsOf l)[k]'(by rw [Hlen.out]; omega) = l[k].r.id := by simp [idsOf]
                have HT : Hid ((idsOf l).take (k + 1) = (idsOf l).take k ++ [l[k].r.id]) := Lib.hid (by
                  rw [List.take_succ_eq_append_getElem (by rw [Hlen.out]; omega), hy])
                have HI : Hid (l[k].r.id ∈ (idsOf l).take i) := Lib.hid (by
                  rw [List.mem_take_iff_getElem]
                  exact ⟨k, by rw [Hlen.out]; omega, hy⟩)
                clear C C' hy
                generalize l[k].r.id = y at *
                generalize l[i].r.id = x at *
                by_cases hxy : x = y
                · have hq : (x == y) = true := by simp [hxy]
                  have HS2 := Lib.hid (HS.out (hxy ▸ HI.out))
                  clear hxy HN HS HI HT hmem
                  go_wp2_with fail
                  go_quiet (fail)
                  go_wp2_with fail
                  go_ret
                  exact ⟨ret_int (by rw [HE2.out, if_neg HS2.out]), below_drewN hb3 _⟩
                · have hq : (x == y) = false := by simp [hxy]
                  have HM : Hid (x ∉ (idsOf l).take (k + 1)) := Lib.hid (by
                    rw [HT.out, List.mem_append]; simp only [List.mem_singleton]
                    exact fun e => e.elim hmem.out hxy)
                  clear hxy HI HT hmem
                  go_wp2_with fail
                  go_quiet (fail)
                  go_wp2_with fail
                  go_roundw
                  case rel => exact ⟨k + 1, by omega, by go_num, HM, below_drewN hb3 _⟩
                  case measure => simp [intOf]; omega
              · have hki2 : ¬ (k : Int) < (i : Int) := by omega
                have hke : k = i := by omega
                have HN2 := Lib.hid (HN.out (hke ▸ hmem.out))
                clear HN HS hke hmem
                go_wp2_with fail
                go_roundw
                case rel => exact ⟨i + 1, by omega, by go_num, HN2, hb3⟩
                case measure => simp [intOf]; omega
          · have hil : ¬ (i : Int) < (l.length : Int) := by omega
            have hfin : Hid ((idsOf l).Nodup) := Lib.hid (by
              have := hnd.out
              rwa [List.take_of_length_le (by rw [Hlen.out]; omega)] at this)
            clear hnd
            go_wp2_with fail
            go_ret
            exact ⟨ret_int (by rw [HE2.out, if_pos hfin.out]), hb2⟩

end Go.Proofs.YtbkmfomdhjhkpaaGreat

namespace Go.Proofs.YtbkmfomdhjhkpaaGreat
open Go.RowKit Go.Maps

theorem recs_nodup {l : List Rec} (hE : recsE l = 0) : (l.map Rec.id).Nodup := by
  unfold recsE at hE
  by_cases h24 : 24 < l.length
  · rw [if_pos h24] at hE; omega
  · rw [if_neg h24] at hE
    by_cases hok : l.all recB = true
    · rw [if_pos hok] at hE
      by_cases hnd : (l.map Rec.id).Nodup
      · exact hnd
      · rw [if_neg hnd] at hE; omega
    · rw [if_neg hok] at hE; omega
/-- The list in order, as told of plain data. -/
theorem ord_at (l : List RD) (A : Option Addr) (c : Nat) (w : World) (h : Recs w w.heap.size A l) (hE : recsE (l.map RD.r) = 0) :
    Calls Tryz.prog 33 #[.slice A l.length c] w fun e w' => ∃ A' c', ∃ ol : List RD, e = .returned (.slice A' ol.length c') ∧ ol.map RD.r = sortR (l.map RD.r) ∧ ol.length = l.length ∧ Recs w' w'.heap.size A' ol ∧ Below w.heap.size w w' := by
  have h24 := (recB_of_zero hE).2
  rw [List.length_map] at h24
  refine (ordered_any l A c w h (by omega)).mono fun e w' ⟨A', c', ol, he, hH, hb⟩ => ?_
  obtain ⟨hp, hs, hr⟩ := hH.out
  have hn := hp.length_eq
  refine ⟨A', c', ol, by rw [hn]; exact he, sorted_eq (hp.map RD.r) (List.pairwise_map.2 hs) (recs_nodup hE), hn, hr, hb⟩
theorem pairRow_start (u : Rul) (k : Int) (l : List Rec) (i : Nat) : pairRow u k l i (i + 1) = [] := by
  unfold pairRow
  rw [List.map_eq_nil_iff, List.filter_eq_nil_iff]
  intro j hj
  have : ¬ i < j := by have := List.mem_range.1 hj; omega
  simp [this]

set_option maxRecDepth 100000 in
set_option maxHeartbeats 4000000 in
theorem refPairs_any (u : Rul) (l : List RD) (A : Option Addr) (c : Nat) (w : World) (h : Recs w w.heap.size A l) (hl : l.length ≤ maxLen) :
    Calls Tryz.prog 13 #[.agg #[.int .i64 u.l, .int .i64 u.d, .int .i64 u.y, .int .i64 u.t], .slice A l.length c] w fun e w' => ∃ v4 v5, e = .returned (.tuple #[v4, v5, .int .i64 (pairsE u (l.map RD.r))]) ∧
      w'.ownsRow w.heap.size 71 2 v4 (pairsV u 2 (l.map RD.r)).length (pairCells (pairsV u 2 (l.map RD.r))) ∧ w'.ownsRow w.heap.size 71 2 v5 (pairsV u 1 (l.map RD.r)).length (pairCells (pairsV u 1 (l.map RD.r))) ∧ Below w.heap.size w w' := by
  have b0 := (Below.refl w.heap.size w).alloc (Nat.le_refl _) (.cells #[.int .i64 u.l, .int .i64 u.d, .int .i64 u.y, .int .i64 u.t] 23)
  have k0 := Blk.new w #[.int .i64 u.l, .int .i64 u.d, .int .i64 u.y, .int .i64 u.t] 23
  have Hl := h.later b0
  cases hR : rulesB u.l u.d u.y u.t with
  | false =>
    have hE : pairsE u (l.map RD.r) = 10 := by rw [pairsE, hR]; rfl
    have hV : ∀ k, pairsV u k (l.map RD.r) = [] := fun k => by rw [pairsV, if_neg (by rw [hE]; decide)]
    rw [hE, hV, hV]
    have HA := Lib.hid (fun W => hR ▸ refRules_any u.l u.d u.y u.t W)
    clear hE hV hR
    go_enter Tryz.func13, Tryz.ntmps13
    have c0 := k0.cell
    go_wp2_with (go_at_call 20; with_reducible refine (HA.out _).mono ?_; rintro e w1 ⟨rfl, rfl⟩)
    go_ret3
    exact ⟨_, _, rfl, World.ownsRow_nil _ _ _ _, World.ownsRow_nil _ _ _ _, b0.alloc b0.size _⟩
  | true =>
    have hEq : pairsE u (l.map RD.r) = recsE (l.map RD.r) := by rw [pairsE, hR]; rfl
    have HA := Lib.hid (fun W => hR ▸ refRules_any u.l u.d u.y u.t W)
    have HL := Lib.hid (fun W hh => listE_eq l ▸ refRecords_any l A c W hh hl)
    by_cases hz : recsE (l.map RD.r) = 0
    · have hV : ∀ k, pairsV u k (l.map RD.r) = pairTo u k (sortR (l.map RD.r)) (l.map RD.r).length := fun k => by rw [pairsV, if_pos (hEq.trans hz)]
      rw [hEq, hV, hV, hz]
      rw [hz] at HL
      have HP := Lib.hid (fun W hh => ord_at l A c W hh hz)
      obtain ⟨hrec, h24⟩ := recB_of_zero hz
      have hlen : (sortR (l.map RD.r)).length = (l.map RD.r).length := (sortR_perm _).length_eq
      rw [List.length_map] at hlen h24 ⊢
      generalize sortR (l.map RD.r) = rl at *
      clear hV hEq hz hR
      have Hrec := Lib.hid hrec
      have Hlen := Lib.hid hlen
      clear hrec hlen
      obtain ⟨i0, hi0, hz0, hz1, hz2⟩ := info_parts pairInfo
      go_enter Tryz.func13, Tryz.ntmps13
      have c0 := k0.cell
      go_wp2_with (first
        | (go_at_call 20; with_reducible refine (HA.out _).mono ?_; rintro e w1 ⟨rfl, rfl⟩; have b1 := b0.alloc b0.size (.cells #[.int .i64 u.l, .int .i64 u.d, .int .i64 u.y, .int .i64 u.t] 23); have Hl1 := h.later b1)
        | (go_at_call 27; with_reducible refine (HL.out _ Hl1).mono ?_; rintro e w2 ⟨rfl, h2⟩; have b2 := b1.trans (h2.mono b1.size); have Hl2 := h.later b2)
        | (go_at_call 33; with_reducible refine (HP.out _ Hl2).mono ?_; rintro e w3 ⟨A', c', pl, rfl, hpl, hpn, hPA, h3⟩; have b3 := b2.trans (h3.mono b2.size); have hp24 : pl.length ≤ 24 := (by omega); have Hpn := Lib.hid hpn; clear hpn))
      subst hpl
      have hpn' : (pl.map RD.r).length = pl.length := by simp
      have hR : ∀ i, (hi : i < pl.length) → (pl.map RD.r)[i]! = pl[i].r := fun i hi => by simp [hi]
      have HR := Lib.hid hR
      have K1 := ((k0.alloc (.cells #[.int .i64 u.l, .int .i64 u.d, .int .i64 u.y, .int .i64 u.t] 23)).below h2 (by simp; omega)).below h3 (by have := h2.size; simp at this; omega)
      clear HA HL HP c0 h2 h3 b1 b2 Hl1 Hl2 hR hpn'
      have hB3 : w3.heap.size ≤ w3.heap.size := Nat.le_refl _
      go_loopw [8, 9, 10] (fun v4 v5 ii wr => ∃ i : Nat, i ≤ pl.length ∧ ii = .int .i64 i ∧ Hid (PInv w3.heap.size w3 wr v4 v5 (pairTo u 2 (pl.map RD.r) i) (pairTo u 1 (pl.map RD.r) i))) (fun _ _ ii _ => pl.length - (intOf ii).toNat)
      case atStart => exact ⟨0, Nat.zero_le _, rfl, Lib.hid ⟨World.ownsRow_nil _ _ _ _, World.ownsRow_nil _ _ _ _, .inl rfl, Below.refl _ _⟩⟩
      case round =>
        obtain ⟨i, hi, rfl, hP⟩ := hrel
        by_cases hlt : i < pl.length
        · have hil : (i : Int) < (pl.length : Int) := by omega
          obtain ⟨wo, rfl⟩ : ∃ wo : World, wo = wr := ⟨_, rfl⟩
          go_wp2_with fail
          go_loopw [8, 9, 11] (fun v4 v5 jj wr => ∃ j : Nat, i < j ∧ j ≤ pl.length ∧ jj = .int .i64 j ∧ Hid (PInv w3.heap.size w3 wr v4 v5 (pairTo u 2 (pl.map RD.r) i ++ pairRow u 2 (pl.map RD.r) i j) (pairTo u 1 (pl.map RD.r) i ++ pairRow u 1 (pl.map RD.r) i j))) (fun _ _ jj _ => pl.length - (intOf jj).toNat)
          case atStart => exact ⟨i + 1, by omega, by omega, by go_num, Lib.hid (by rw [pairRow_start, pairRow_start, List.append_nil, List.append_nil]; exact hP.out)⟩
          case round =>
            obtain ⟨j, hij, hj, rfl, hQ⟩ := hrel
            by_cases hjt : j < pl.length
            · have hjl : (j : Int) < (pl.length : Int) := by omega
              have Hs2 := Lib.hid (HR.out i hlt ▸ HR.out j hjt ▸ pairRow_step u 2 (pl.map RD.r) i j)
              have Hs1 := Lib.hid (HR.out i hlt ▸ HR.out j hjt ▸ pairRow_step u 1 (pl.map RD.r) i j)
              have hbel := hQ.out.below
              obtain ⟨b, off, rfl, hb, C, _, _⟩ := (hPA.later hbel).eight hlt
              obtain ⟨b', off', e', hb', C', _, _⟩ := (hPA.later hbel).eight hjt
              cases e'
              have ci := C.c0
              have cj := C'.c0
              have hbs := hbel.size
              have cia : ∀ o : Obj, (wr.alloc o).cell? ⟨b, off + i * 8, none⟩ = some (.int .i64 pl[i].r.id) := fun o => (((Below.refl wr.heap.size wr).alloc (Nat.le_refl _) o).cell (p := ⟨b, off + i * 8, none⟩) (by show b < _; omega)).trans ci
              have cja : ∀ o : Obj, (wr.alloc o).cell? ⟨b, off + j * 8, none⟩ = some (.int .i64 pl[j].r.id) := fun o => (((Below.refl wr.heap.size wr).alloc (Nat.le_refl _) o).cell (p := ⟨b, off + j * 8, none⟩) (by show b < _; omega)).trans cj
              have hb1 : Below wr.heap.size wr (wr.alloc (.cells #[.int .i64 pl[i].r.id, .int .i64 pl[j].r.id] 71)).drew := ((Below.refl _ _).alloc (Nat.le_refl _) _).drew
              have kp : Blk (wr.alloc (.cells #[.int .i64 pl[i].r.id, .int .i64 pl[j].r.id] 71)).drew wr.heap.size #[.int .i64 pl[i].r.id, .int .i64 pl[j].r.id] 71 := (Blk.new wr _ _).drew
              have HQ1 := Lib.hid (hQ.out.later hb1 hbs)
              have hP1 := hPA.later (hbel.trans (hb1.mono hbs))
              have KU := K1.below (hbel.trans (hb1.mono hbs)) K1.lt
              go_wp2_with fail
              go_region
              generalize (wr.alloc (.cells #[.int .i64 pl[i].r.id, .int .i64 pl[j].r.id] 71)).drew = W1 at *
              have hbW := HQ1.out.below
              obtain ⟨b1, off1, e1, hb1', C1, gai, rmi⟩ := hP1.eight hlt
              cases e1
              obtain ⟨b2, off2, e2, hb2', C2, gaj, rmj⟩ := hP1.eight hjt
              cases e2
              have hri := Hrec.out _ (List.mem_map_of_mem (f := RD.r) (List.getElem_mem hlt))
              have hrj := Hrec.out _ (List.mem_map_of_mem (f := RD.r) (List.getElem_mem hjt))
              clear ci cj cia cja C C'
              generalize pl[i] = p at *
              generalize pl[j] = q at *
              have HC := Lib.hid (fun (x : After W1.heap.size W1) => refCompare_in u p.r q.r p.A q.A p.D q.D p.c q.c p.d q.d x.val (gai.later x.property) (gaj.later x.property) hri hrj rmi rmj)
              clear hri hrj gai gaj rmi rmj hP1 hbel
              generalize matF u p.r q.r = M at HC Hs1 Hs2
              obtain ⟨mn, mk, mb, mp, mo⟩ := M
              dsimp only at HC Hs1 Hs2
              have hfld : ∀ V, (Instr.field 54 (.agg #[.int .u8 mn, .int .u8 mk, .int .u8 mb, .int .u8 mp, .int .u8 mo]) 4).run Tryz.prog V = .ok (.int .u8 mo) V := fun _ => by kernel_rfl
              have cu := After.cells (B := W1.heap.size) KU.cell KU.lt
              have d0 := After.cell (B := W1.heap.size) C1.c0 hb1'
              have d1 := After.cell (B := W1.heap.size) C1.c1 hb1'
              have d2 := After.cell (B := W1.heap.size) C1.c2 hb1'
              have d3 := After.cell (B := W1.heap.size) C1.c3 hb1'
              have d4 := After.cell (B := W1.heap.size) C1.c4 hb1'
              have d5 := After.cell (B := W1.heap.size) C1.c5 hb1'
              have d6 := After.cell (B := W1.heap.size) C1.c6 hb1'
              have d7 := After.cell (B := W1.heap.size) C1.c7 hb1'
              have g0 := After.cell (B := W1.heap.size) C2.c0 hb1'
              have g1 := After.cell (B := W1.heap.size) C2.c1 hb1'
              have g2 := After.cell (B := W1.heap.size) C2.c2 hb1'
              have g3 := After.cell (B := W1.heap.size) C2.c3 hb1'
              have g4 := After.cell (B := W1.heap.size) C2.c4 hb1'
              have g5 := After.cell (B := W1.heap.size) C2.c5 hb1'
              have g6 := After.cell (B := W1.heap.size) C2.c6 hb1'
              have g7 := After.cell (B := W1.heap.size) C2.c7 hb1'
              clear C1 C2
              go_wp2_with fail
              refine wp_region_class_lit (C := fun w' => ∃ x : After W1.heap.size W1, w' = x.val) (by kernel_rfl) (by kernel_rfl) ⟨⟨_, (Below.refl _ _).drew⟩, rfl⟩ ?_
              repeat (go_big_quiet_step ((first
                | (go_at_call 34; with_reducible exact after_of (Nat.le_refl _) _ (HC.out _)))))
              refine wpQuiet_nil ?_
              intro wq hw'
              obtain ⟨⟨wz, hz⟩, hw''⟩ := hw'
              dsimp only at hw''
              subst hw''
              clear hfld d0 d1 d2 d3 d4 d5 d6 d7 g0 g1 g2 g3 g4 g5 g6 g7 cu HC
              have hbz : w3.heap.size ≤ wq.heap.size := Nat.le_trans (Nat.le_trans hbs hb1.size) hz.size
              have HQ2 := Lib.hid (HQ1.out.later hz (Nat.le_trans hbs hb1.size))
              have kp2 := (kp.below hz kp.lt)
              have pcell := kp2.cell
              have hn2 : (pairTo u 2 (pl.map RD.r) i ++ pairRow u 2 (pl.map RD.r) i j).length ≤ 1000 := by
                have h1 := pairTo_le u 2 (pl.map RD.r) i
                have h2 := pairRow_le u 2 (pl.map RD.r) i j
                rw [List.length_map] at h1
                have h3 : i * pl.length ≤ 24 * 24 := Nat.mul_le_mul (by omega) hp24
                rw [List.length_append]; omega
              have hn1 : (pairTo u 1 (pl.map RD.r) i ++ pairRow u 1 (pl.map RD.r) i j).length ≤ 1000 := by
                have h1 := pairTo_le u 1 (pl.map RD.r) i
                have h2 := pairRow_le u 1 (pl.map RD.r) i j
                rw [List.length_map] at h1
                have h3 : i * pl.length ≤ 24 * 24 := Nat.mul_le_mul (by omega) hp24
                rw [List.length_append]; omega
              have HQ3 := Lib.hid (HQ2.out.later ((Below.refl wq.heap.size wq).alloc (Nat.le_refl _) (.cells #[.int .i64 p.r.id, .int .i64 q.r.id] 71)) hbz)
              have hbz3 : w3.heap.size ≤ (wq.alloc (.cells #[.int .i64 p.r.id, .int .i64 q.r.id] 71)).heap.size := by simp; omega
              clear hbW kp kp2 KU HQ1 hz hb1 hP
              by_cases h1 : mo = 1
              · subst h1
                have hs2 := Hs2.out
                have hs1 := Hs1.out
                rw [if_neg (by omega), List.append_nil] at hs2
                rw [if_pos ⟨hij, rfl⟩] at hs1
                have Hs2' := Lib.hid hs2
                have Hs1' := Lib.hid hs1
                clear hs1 hs2 Hs1 Hs2
                go_wp2_with (at_builtin; refine wpList_append_own_at _ rfl _ _ 27 rfl w3.heap.size 71 i0 _ 2 16 Tryz.underlying27 hi0 hz0 hz1 hz2 rfl (by decide) _ _ _ rfl HQ3.out.o ⟨wq.heap.size, 0, none⟩ 1 1 [.int .i64 p.r.id, .int .i64 q.r.id] rfl rfl (cells_new2 _ _ _) (by simp [Value.oneCell']) (by unfold maxLen; omega) (by omega) hbz3 ?_; intro v' w5 hown5 hg5 _ hat5)
                have HQ4 := Lib.hid (HQ3.out.open_ hbz3 (p.r.id, q.r.id) hown5 hg5 hat5)
                go_wp2_with fail
                go_roundw
                case rel => exact ⟨j + 1, by omega, by omega, by go_num, Lib.hid (by rw [Hs2'.out, Hs1'.out, ← List.append_assoc]; exact HQ4.out)⟩
                case measure => simp [intOf]; omega
              · have h1' : (mo == 1) = false := by simpa using h1
                by_cases h2 : mo = 2
                · subst h2
                  have hs2 := Hs2.out
                  have hs1 := Hs1.out
                  rw [if_pos ⟨hij, rfl⟩] at hs2
                  rw [if_neg (by omega), List.append_nil] at hs1
                  have Hs2' := Lib.hid hs2
                  have Hs1' := Lib.hid hs1
                  clear hs1 hs2 Hs1 Hs2
                  go_wp2_with (at_builtin; refine wpList_append_own_at _ rfl _ _ 27 rfl w3.heap.size 71 i0 _ 2 16 Tryz.underlying27 hi0 hz0 hz1 hz2 rfl (by decide) _ _ _ rfl HQ3.out.s ⟨wq.heap.size, 0, none⟩ 1 1 [.int .i64 p.r.id, .int .i64 q.r.id] rfl rfl (cells_new2 _ _ _) (by simp [Value.oneCell']) (by unfold maxLen; omega) (by omega) hbz3 ?_; intro v' w5 hown5 hg5 _ hat5)
                  have HQ4 := Lib.hid (HQ3.out.sure hbz3 (p.r.id, q.r.id) hown5 hg5 hat5)
                  go_wp2_with fail
                  go_roundw
                  case rel => exact ⟨j + 1, by omega, by omega, by go_num, Lib.hid (by rw [Hs2'.out, Hs1'.out, ← List.append_assoc]; exact HQ4.out)⟩
                  case measure => simp [intOf]; omega
                · have h2' : (mo == 2) = false := by simpa using h2
                  have hs2 := Hs2.out
                  have hs1 := Hs1.out
                  rw [if_neg (by omega), List.append_nil] at hs2
                  rw [if_neg (by omega), List.append_nil] at hs1
                  have Hs2' := Lib.hid hs2
                  have Hs1' := Lib.hid hs1
                  clear hs1 hs2 Hs1 Hs2
                  go_wp2_with fail
                  go_roundw
                  case rel => exact ⟨j + 1, by omega, by omega, by go_num, Lib.hid (by rw [Hs2'.out, Hs1'.out]; exact HQ2.out)⟩
                  case measure => simp [intOf]; omega
            · have hjl : ¬ (j : Int) < (pl.length : Int) := by omega
              obtain rfl : j = pl.length := by omega
              have Ht2 := Lib.hid (pairTo_step u 2 (pl.map RD.r) i)
              have Ht1 := Lib.hid (pairTo_step u 1 (pl.map RD.r) i)
              rw [List.length_map] at Ht1 Ht2
              go_wp2_with fail
              go_roundw
              case rel => exact ⟨i + 1, by omega, by go_num, Lib.hid (by rw [Ht2.out, Ht1.out]; exact hQ.out)⟩
              case measure => simp [intOf]; omega
        · have hil : ¬ (i : Int) < (pl.length : Int) := by omega
          obtain rfl : i = pl.length := by omega
          have hfin := hP.out
          rw [Hpn.out] at hfin
          have Hfin := Lib.hid hfin
          clear hfin
          go_wp2_with fail
          go_ret3
          exact ⟨_, _, rfl, own_base Hfin.out.s b3.size, own_base Hfin.out.o b3.size, b3.trans (Hfin.out.below.mono b3.size)⟩
    · have hEz : pairsE u (l.map RD.r) ≠ 0 := by rw [hEq]; exact hz
      have hV : ∀ k, pairsV u k (l.map RD.r) = [] := fun k => by rw [pairsV, if_neg hEz]
      rw [hV, hV, hEq]
      have hne : (recsE (l.map RD.r) != 0) = true := by simpa using hz
      clear hEq hz hEz hV
      generalize recsE (l.map RD.r) = E at HL hne ⊢
      go_enter Tryz.func13, Tryz.ntmps13
      have c0 := k0.cell
      go_wp2_with (first
        | (go_at_call 20; with_reducible refine (HA.out _).mono ?_; rintro e w1 ⟨rfl, rfl⟩; have b1 := b0.alloc b0.size (.cells #[.int .i64 u.l, .int .i64 u.d, .int .i64 u.y, .int .i64 u.t] 23); have Hl1 := h.later b1)
        | (go_at_call 27; with_reducible refine (HL.out _ Hl1).mono ?_; rintro e w2 ⟨rfl, h2⟩; have b2 := b1.trans (h2.mono b1.size)))
      go_ret3
      exact ⟨_, _, rfl, World.ownsRow_nil _ _ _ _, World.ownsRow_nil _ _ _ _, b2⟩

end Go.Proofs.YtbkmfomdhjhkpaaGreat

namespace Go.Proofs.YtbkmfomdhjhkpaaGreat

theorem recsE_iff (l : List Rec) : recsE l = 0 ↔ l.length ≤ 24 ∧ (∀ r ∈ l, recB r = true) ∧ (l.map Rec.id).Nodup := by
  unfold recsE
  by_cases h24 : 24 < l.length
  · rw [if_pos h24]; exact ⟨fun e => by omega, fun e => by omega⟩
  · rw [if_neg h24]
    by_cases hok : l.all recB = true
    · rw [if_pos hok]
      by_cases hnd : (l.map Rec.id).Nodup
      · rw [if_pos hnd]; exact ⟨fun _ => ⟨by omega, List.all_eq_true.1 hok, hnd⟩, fun _ => rfl⟩
      · rw [if_neg hnd]; exact ⟨fun e => by omega, fun e => absurd e.2.2 hnd⟩
    · rw [if_neg hok]; exact ⟨fun e => by omega, fun e => absurd (List.all_eq_true.2 e.2.1) hok⟩
theorem recsE_perm {l l' : List Rec} (h : l.Perm l') (hE : recsE l = 0) : recsE l' = 0 := by
  rw [recsE_iff] at hE ⊢
  exact ⟨by rw [← h.length_eq]; exact hE.1, fun r hr => hE.2.1 r (h.mem_iff.2 hr), (h.map Rec.id).nodup_iff.1 hE.2.2⟩
theorem recsE_sub {l l' : List Rec} (h : l'.Sublist l) (hE : recsE l = 0) : recsE l' = 0 := by
  rw [recsE_iff] at hE ⊢
  exact ⟨Nat.le_trans h.length_le hE.1, fun r hr => hE.2.1 r (h.subset hr), hE.2.2.sublist (h.map Rec.id)⟩
theorem sortR_same {l l' : List Rec} (h : l.Perm l') (hE : recsE l = 0) : sortR l' = sortR l :=
  sorted_eq ((sortR_perm l').trans h.symm) (sortR_sorted l') (recs_nodup hE)
theorem pairsE_zero {u : Rul} {l : List Rec} (hR : rulesB u.l u.d u.y u.t = true) (hE : recsE l = 0) : pairsE u l = 0 := by rw [pairsE, if_pos hR]; exact hE
theorem pairsV_perm {u : Rul} {k : Int} {l l' : List Rec} (hR : rulesB u.l u.d u.y u.t = true) (h : l.Perm l') (hE : recsE l = 0) : pairsV u k l' = pairsV u k l := by
  rw [pairsV, if_pos (pairsE_zero hR (recsE_perm h hE)), pairsV, if_pos (pairsE_zero hR hE), sortR_same h hE, h.length_eq]
/-- The first k records behind the others. -/
theorem turned_perm {α : Type} (l : List α) (k : Nat) : (l.drop k ++ l.take k).Perm l := (List.perm_append_comm).trans (by rw [List.take_append_drop])

theorem pairRow_mem {u : Rul} {k : Int} {l : List Rec} {i n : Nat} (hi : i < l.length) (hn : n ≤ l.length) (p : Int × Int) : p ∈ pairRow u k l i n ↔ ∃ j, ∃ hj : j < n, i < j ∧ (matF u (l[i]'hi) (l[j]'(by omega))).one = k ∧ p = (l[i].id, (l[j]'(by omega)).id) := by
  unfold pairRow
  simp only [List.mem_map, List.mem_filter, List.mem_range, Bool.and_eq_true, decide_eq_true_eq]
  constructor
  · rintro ⟨j, ⟨hj, h1, h2⟩, rfl⟩
    have e1 : l[i]! = l[i] := by simp [hi]
    have e2 : l[j]! = l[j]'(by omega) := by simp [show j < l.length by omega]
    rw [e1, e2] at h2
    exact ⟨j, hj, h1, h2, by rw [e1, e2]⟩
  · rintro ⟨j, hj, h1, h2, rfl⟩
    have e1 : l[i]! = l[i] := by simp [hi]
    have e2 : l[j]! = l[j]'(by omega) := by simp [show j < l.length by omega]
    exact ⟨j, ⟨hj, h1, by rw [e1, e2]; exact h2⟩, by rw [e1, e2]⟩
theorem pairTo_mem {u : Rul} {k : Int} {l : List Rec} (p : Int × Int) : p ∈ pairTo u k l l.length ↔ ∃ i j, ∃ hi : i < l.length, ∃ hj : j < l.length, i < j ∧ (matF u (l[i]'hi) (l[j]'hj)).one = k ∧ p = (l[i].id, l[j].id) := by
  unfold pairTo
  rw [List.mem_flatMap]
  constructor
  · rintro ⟨i, hi, hp⟩
    obtain ⟨j, hj, h1, h2, h3⟩ := (pairRow_mem (List.mem_range.1 hi) (Nat.le_refl _) p).1 hp
    exact ⟨i, j, List.mem_range.1 hi, hj, h1, h2, h3⟩
  · rintro ⟨i, j, hi, hj, h1, h2, h3⟩
    exact ⟨i, List.mem_range.2 hi, (pairRow_mem hi (Nat.le_refl _) p).2 ⟨j, hj, h1, h2, h3⟩⟩
/-- A pair is told if and only if two records have its numbers, the lesser first, and agree so. -/
theorem pairsV_mem {u : Rul} {k : Int} {l : List Rec} (hR : rulesB u.l u.d u.y u.t = true) (hE : recsE l = 0) (p : Int × Int) : p ∈ pairsV u k l ↔ ∃ r ∈ l, ∃ s ∈ l, r.id < s.id ∧ (matF u r s).one = k ∧ p = (r.id, s.id) := by
  have hs := strict_of (sortR_sorted l) (((sortR_perm l).map Rec.id).nodup_iff.2 (recs_nodup hE))
  have hs' := List.pairwise_iff_getElem.1 hs
  have hl : (sortR l).length = l.length := (sortR_perm l).length_eq
  rw [pairsV, if_pos (pairsE_zero hR hE), ← hl, pairTo_mem]
  constructor
  · rintro ⟨i, j, hi, hj, h1, h2, h3⟩
    exact ⟨_, (sortR_perm l).mem_iff.1 (List.getElem_mem hi), _, (sortR_perm l).mem_iff.1 (List.getElem_mem hj), hs' i j hi hj h1, h2, h3⟩
  · rintro ⟨r, hr, s, hss, h1, h2, h3⟩
    obtain ⟨i, hi, rfl⟩ := List.getElem_of_mem ((sortR_perm l).mem_iff.2 hr)
    obtain ⟨j, hj, rfl⟩ := List.getElem_of_mem ((sortR_perm l).mem_iff.2 hss)
    have hij : i < j := by
      rcases Nat.lt_trichotomy i j with h | h | h
      · exact h
      · subst h; omega
      · have := hs' j i hj hi h; omega
    exact ⟨i, j, hi, hj, hij, h2, h3⟩

/-! In what order they are told. -/
def lexLt (p q : Int × Int) : Prop := p.1 < q.1 ∨ p.1 = q.1 ∧ p.2 < q.2
theorem pairTo_strict {u : Rul} {k : Int} {l : List Rec} (hs : l.Pairwise fun x y => x.id < y.id) : ∀ n, n ≤ l.length → (pairTo u k l n).Pairwise lexLt
  | 0, _ => by simp [pairTo]
  | n + 1, hn => by
    have hs' := List.pairwise_iff_getElem.1 hs
    rw [pairTo_step, List.pairwise_append]
    refine ⟨pairTo_strict hs n (by omega), ?_, fun p hp q hq => ?_⟩
    · unfold pairRow
      rw [List.pairwise_map]
      refine List.Pairwise.imp_of_mem ?_ ((List.pairwise_lt_range (n := l.length)).filter _)
      intro a b ha hb hab
      have h1 := List.mem_range.1 (List.mem_filter.1 ha).1
      have h2 := List.mem_range.1 (List.mem_filter.1 hb).1
      have e1 : l[a]! = l[a] := by simp [h1]
      have e2 : l[b]! = l[b] := by simp [h2]
      exact .inr ⟨rfl, by rw [e1, e2]; exact hs' a b h1 h2 hab⟩
    · obtain ⟨j, hj, _, _, rfl⟩ := (pairRow_mem (show n < l.length by omega) (Nat.le_refl _) q).1 hq
      unfold pairTo at hp
      obtain ⟨i, hi, hp⟩ := List.mem_flatMap.1 hp
      have hi := List.mem_range.1 hi
      obtain ⟨j', hj', _, _, rfl⟩ := (pairRow_mem (show i < l.length by omega) (Nat.le_refl _) p).1 hp
      exact .inl (hs' i n (by omega) (by omega) hi)
theorem pairsV_strict {u : Rul} {k : Int} {l : List Rec} : (pairsV u k l).Pairwise lexLt := by
  unfold pairsV
  split
  · rename_i hz
    have hE : recsE l = 0 := by unfold pairsE at hz; split at hz; exact hz; omega
    have hs := strict_of (sortR_sorted l) (((sortR_perm l).map Rec.id).nodup_iff.2 (recs_nodup hE))
    exact pairTo_strict hs _ (by rw [(sortR_perm l).length_eq]; exact Nat.le_refl _)
  · exact List.Pairwise.nil
theorem pairsV_nodup {u : Rul} {k : Int} {l : List Rec} : (pairsV u k l).Nodup := pairsV_strict.imp fun {p q} h e => by subst e; rcases h with h | h <;> omega

/-- The pairs of a list without some records are those whose numbers are still there. -/
theorem pairsV_sub {u : Rul} {k : Int} {l l' : List Rec} (hR : rulesB u.l u.d u.y u.t = true) (h : l'.Sublist l) (hE : recsE l = 0) (p : Int × Int) : p ∈ pairsV u k l' ↔ p ∈ pairsV u k l ∧ (∃ r ∈ l', r.id = p.1) ∧ (∃ r ∈ l', r.id = p.2) := by
  rw [pairsV_mem hR (recsE_sub h hE), pairsV_mem hR hE]
  have hnd := (recsE_iff l).1 hE |>.2.2
  have inj : ∀ r ∈ l, ∀ s ∈ l, r.id = s.id → r = s := fun r hr s hs e => by
    obtain ⟨i, hi, rfl⟩ := List.getElem_of_mem hr
    obtain ⟨j, hj, rfl⟩ := List.getElem_of_mem hs
    have h3 : l.Pairwise fun a b => a.id ≠ b.id := List.pairwise_map.1 hnd
    rw [List.pairwise_iff_getElem] at h3
    rcases Nat.lt_trichotomy i j with h | h | h
    · exact absurd e (h3 i j hi hj h)
    · subst h; rfl
    · exact absurd e.symm (h3 j i hj hi h)
  constructor
  · rintro ⟨r, hr, s, hs, h1, h2, rfl⟩
    exact ⟨⟨r, h.subset hr, s, h.subset hs, h1, h2, rfl⟩, ⟨r, hr, rfl⟩, ⟨s, hs, rfl⟩⟩
  · rintro ⟨⟨r, hr, s, hs, h1, h2, rfl⟩, ⟨r', hr', e1⟩, ⟨s', hs', e2⟩⟩
    obtain rfl := inj r' (h.subset hr') r hr e1
    obtain rfl := inj s' (h.subset hs') s hs e2
    exact ⟨r', hr', s', hs', h1, h2, rfl⟩
/-- No pair is both surely and maybe one. -/
theorem pairsV_apart {u : Rul} {l : List Rec} (hR : rulesB u.l u.d u.y u.t = true) (hE : recsE l = 0) {p : Int × Int} (h1 : p ∈ pairsV u 1 l) (h2 : p ∈ pairsV u 2 l) : False := by
  obtain ⟨r, hr, s, hs, _, a1, e1⟩ := (pairsV_mem hR hE p).1 h1
  obtain ⟨r', hr', s', hs', _, a2, e2⟩ := (pairsV_mem hR hE p).1 h2
  have hnd := (recsE_iff l).1 hE |>.2.2
  have inj : ∀ r ∈ l, ∀ s ∈ l, r.id = s.id → r = s := fun r hr s hs e => by
    obtain ⟨i, hi, rfl⟩ := List.getElem_of_mem hr
    obtain ⟨j, hj, rfl⟩ := List.getElem_of_mem hs
    have h3 : l.Pairwise fun a b => a.id ≠ b.id := List.pairwise_map.1 hnd
    rw [List.pairwise_iff_getElem] at h3
    rcases Nat.lt_trichotomy i j with h | h | h
    · exact absurd e (h3 i j hi hj h)
    · subst h; rfl
    · exact absurd e.symm (h3 j i hj hi h)
  rw [e1] at e2
  simp only [Prod.mk.injEq] at e2
  obtain rfl := inj r hr r' hr' e2.1
  obtain rfl := inj s hs s' hs' e2.2
  omega

end Go.Proofs.YtbkmfomdhjhkpaaGreat

namespace Go.Proofs.YtbkmfomdhjhkpaaGreat
open Go.RowKit Go.Maps

/-! What is noted: a place and a number for each stay on the day. -/
def logR (day : Int) (r : Rec) (q : Nat) : List (Int × Int) := ((r.stays.take q).filter (onDay day)).map fun s => (s.p, r.id)
def logL (day : Int) (l : List Rec) : List (Int × Int) := l.flatMap fun r => logR day r r.stays.length
def whoAt (g : List (Int × Int)) (p : Int) : List Int := (g.filter fun x => decide (x.1 = p)).map (·.2)
theorem whoAt_snoc (g : List (Int × Int)) (p n q : Int) : whoAt (g ++ [(p, n)]) q = if q = p then whoAt g p ++ [n] else whoAt g q := by
  unfold whoAt
  rw [List.filter_append, List.map_append]
  by_cases h : q = p
  · subst h; rw [if_pos rfl]; simp
  · rw [if_neg h]
    have : ¬ p = q := fun e => h e.symm
    simp [this]
theorem logR_next (day : Int) (r : Rec) (q : Nat) (hq : q < r.stays.length) : logR day r (q + 1) = logR day r q ++ if onDay day r.stays[q] = true then [(r.stays[q].p, r.id)] else [] := by
  unfold logR
  rw [List.take_succ_eq_append_getElem hq, List.filter_append, List.map_append]
  congr 1
  by_cases h : onDay day r.stays[q] = true
  · rw [if_pos h, List.filter_cons_of_pos h]; rfl
  · rw [if_neg h, List.filter_cons_of_neg h]; rfl
theorem logR_zero (day : Int) (r : Rec) : logR day r 0 = [] := by simp [logR]
theorem logL_snoc (day : Int) (l : List Rec) (r : Rec) : logL day (l ++ [r]) = logL day l ++ logR day r r.stays.length := by simp [logL, List.flatMap_append]
theorem whoAt_mem (day p n : Int) (l : List Rec) : n ∈ whoAt (logL day l) p ↔ n ∈ idsAt day p l := by
  unfold whoAt logL logR idsAt
  simp only [List.mem_map, List.mem_filter, List.mem_flatMap, List.take_length]
  constructor
  · rintro ⟨⟨a, b⟩, ⟨⟨r, hr, s, ⟨hs, ho⟩, e⟩, hp⟩, rfl⟩
    simp only [Prod.mk.injEq] at e
    obtain ⟨rfl, rfl⟩ := e
    simp only [decide_eq_true_eq] at hp
    exact ⟨r, ⟨hr, List.any_eq_true.2 ⟨s, List.mem_filter.2 ⟨hs, by simpa using hp⟩, ho⟩⟩, rfl⟩
  · rintro ⟨r, ⟨hr, ha⟩, rfl⟩
    obtain ⟨s, hs, ho⟩ := List.any_eq_true.1 ha
    obtain ⟨hs1, hs2⟩ := List.mem_filter.1 hs
    exact ⟨(s.p, r.id), ⟨⟨r, hr, s, ⟨hs1, ho⟩, rfl⟩, by simpa using hs2⟩, rfl⟩
theorem whoAt_nil_iff (day p : Int) (l : List Rec) : whoAt (logL day l) p = [] ↔ idsAt day p l = [] := by
  rw [List.eq_nil_iff_forall_not_mem, List.eq_nil_iff_forall_not_mem]
  exact ⟨fun h n hn => h n ((whoAt_mem day p n l).2 hn), fun h n hn => h n ((whoAt_mem day p n l).1 hn)⟩

/-! A map of maps. -/
structure AtMap (B : Nat) (w : World) (m n : Nat) (G : Lit → Option Value) (H : Int → Prop) (F : Int → List Int) : Prop where
  map : MapFn w Tryz.prog 3 m n G
  none_ : ∀ p, ¬ H p → G (.int .i64 p) = none
  some_ : ∀ p, H p → ∃ b, G (.int .i64 p) = some (.map (some b)) ∧ MapFn w Tryz.prog 3 b (F p).length (seenG (F p)) ∧ B ≤ b
  far : ∀ p q b, p ≠ q → G (.int .i64 p) = some (.map (some b)) → G (.int .i64 q) ≠ some (.map (some b))
  keys : ∀ kl, (G kl).isSome = true → ∃ p, kl = .int .i64 p
  low : m < B
theorem AtMap.congr {B : Nat} {w : World} {m n : Nat} {G : Lit → Option Value} {H H' : Int → Prop} {F F' : Int → List Int} (h : AtMap B w m n G H F) (eH : ∀ p, H p ↔ H' p) (eF : ∀ p, F p = F' p) : AtMap B w m n G H' F' := by
  have h1 : H = H' := funext fun p => propext (eH p)
  have h2 : F = F' := funext eF
  rw [← h1, ← h2]; exact h
theorem AtMap.made {B : Nat} {w : World} {m : Nat} (h : MapFn w Tryz.prog 3 m 0 (fun _ => none)) (hm : m < B) : AtMap B w m 0 (fun _ => none) (fun _ => False) (fun _ => []) :=
  ⟨h, fun _ _ => rfl, fun _ h => h.elim, (fun _ _ _ _ h => by cases h), (fun _ h => by cases h), hm⟩
theorem AtMap.kept {B : Nat} {w w' : World} {m n : Nat} {G : Lit → Option Value} {H : Int → Prop} {F : Int → List Int} {row : Option Nat} (h : AtMap B w m n G H F) (hg : w.grownBy w' row) (hm : some m ≠ row) (hr : ∀ p b, G (.int .i64 p) = some (.map (some b)) → some b ≠ row) : AtMap B w' m n G H F :=
  ⟨h.map.kept hg hm, h.none_, fun p hp => by
    obtain ⟨b, h1, h2, h3⟩ := h.some_ p hp
    exact ⟨b, h1, h2.kept hg (hr p b h1), h3⟩, h.far, h.keys, h.low⟩
theorem AtMap.more {B : Nat} {w w' : World} {m n : Nat} {G : Lit → Option Value} {H : Int → Prop} {F : Int → List Int} (h : AtMap B w m n G H F) (hg : w.grownBy w' none) : AtMap B w' m n G H F := h.kept hg (by simp) (fun _ _ _ => by simp)
/-- An inner map is no block of cells and no iterator's; nor is the outer one. -/
theorem AtMap.turn {B : Nat} {w w' : World} {m n r : Nat} {G : Lit → Option Value} {H : Int → Prop} {F : Int → List Int} (h : AtMap B w m n G H F) (hg : w.grownBy w' (some r)) (hr : ∀ es c, w.heap[r]? ≠ some (.map es c)) : AtMap B w' m n G H F :=
  h.kept hg (fun e => by
    obtain ⟨es, c, hc⟩ := mapFn_heap h.map
    rw [Option.some.inj e] at hc
    exact hr es c hc) (fun p b hb e => by
    have hp : H p := Classical.byContradiction fun hn => by rw [h.none_ p hn] at hb; cases hb
    obtain ⟨b', h1, h2, _⟩ := h.some_ p hp
    rw [hb] at h1
    cases h1
    obtain ⟨es, c, hc⟩ := mapFn_heap h2
    rw [Option.some.inj e] at hc
    exact hr es c hc)
theorem AtMap.low_ne {B : Nat} {w : World} {m n c : Nat} {G : Lit → Option Value} {H : Int → Prop} {F : Int → List Int} (h : AtMap B w m n G H F) (hc : c < B) (_hcm : c ≠ m) : ∀ p b, G (.int .i64 p) = some (.map (some b)) → some b ≠ some c := fun p b hb e => by
  have hp : H p := Classical.byContradiction fun hn => by rw [h.none_ p hn] at hb; cases hb
  obtain ⟨b', h1, _, h3⟩ := h.some_ p hp
  rw [hb] at h1
  cases h1
  have := Option.some.inj e
  omega

/-- A place more, with nobody yet. -/
theorem AtMap.open_ {B : Nat} {w w1 w2 : World} {m n b : Nat} {G : Lit → Option Value} {H : Int → Prop} {F : Int → List Int} (h : AtMap B w m n G H F) (p : Int) (hp : ¬ H p) (hF : F p = []) (hb : b = w.heap.size) (hB : B ≤ w.heap.size)
    (hn : MapFn w1 Tryz.prog 3 b 0 (fun _ => none)) (hg1 : w.grownBy w1 none) (hput : MapFn w2 Tryz.prog 3 m (n + 1) (putFn G (.int .i64 p) (.map (some b)))) (hg2 : w1.grownBy w2 (some m)) :
    AtMap B w2 m (n + 1) (putFn G (.int .i64 p) (.map (some b))) (fun q => H q ∨ q = p) F := by
  have hmw : m < w.heap.size := h.map.lt
  have other : ∀ q, q ≠ p → putFn G (.int .i64 p) (.map (some b)) (.int .i64 q) = G (.int .i64 q) := fun q hq => by simp [putFn, hq]
  have same : putFn G (.int .i64 p) (.map (some b)) (.int .i64 p) = some (.map (some b)) := by simp [putFn]
  have lt : ∀ q c, G (.int .i64 q) = some (.map (some c)) → c < w.heap.size ∧ c ≠ m := fun q c hc => by
    have hq : H q := Classical.byContradiction fun hn => by rw [h.none_ q hn] at hc; cases hc
    obtain ⟨b', h1, h2, h3⟩ := h.some_ q hq
    rw [hc] at h1; cases h1
    have := h.low
    exact ⟨h2.lt, by omega⟩
  refine ⟨hput, fun q hq => ?_, fun q hq => ?_, fun q r c hqr hc hc2 => ?_, fun kl hk => ?_, h.low⟩
  · rw [other q fun e => hq (.inr e)]
    exact h.none_ q fun e => hq (.inl e)
  · by_cases hqp : q = p
    · subst hqp
      refine ⟨b, same, ?_, by omega⟩
      rw [hF, show seenG [] = fun _ => none by funext x; simp [seenG]]
      exact hn.kept hg2 (fun e => by have := Option.some.inj e; omega)
    · obtain ⟨c, h1, h2, h3⟩ := h.some_ q (hq.resolve_right hqp)
      refine ⟨c, (other q hqp).trans h1, (h2.kept hg1 (by simp)).kept hg2 (fun e => (lt q c h1).2 (Option.some.inj e)), h3⟩
  · by_cases hqp : q = p
    · subst hqp
      rw [same] at hc; cases hc
      rw [other r fun e => hqr e.symm] at hc2
      have := (lt r b hc2).1
      omega
    · rw [other q hqp] at hc
      by_cases hrp : r = p
      · subst hrp
        rw [same] at hc2; cases hc2
        have := (lt q b hc).1
        omega
      · rw [other r hrp] at hc2
        exact h.far q r c hqr hc hc2
  · by_cases hkl : kl = .int .i64 p
    · exact ⟨p, hkl⟩
    · have : putFn G (.int .i64 p) (.map (some b)) kl = G kl := by simp [putFn, hkl]
      rw [this] at hk; exact h.keys kl hk
/-- A number more at a place. -/
theorem AtMap.put {B : Nat} {w w1 : World} {m n b : Nat} {G : Lit → Option Value} {H : Int → Prop} {F : Int → List Int} (h : AtMap B w m n G H F) (p x : Int) (hp : H p) (hb : G (.int .i64 p) = some (.map (some b)))
    (hput : MapFn w1 Tryz.prog 3 b ((F p).length + 1) (putFn (seenG (F p)) (.int .i64 x) (.bool true))) (hg : w.grownBy w1 (some b)) : AtMap B w1 m n G H (fun q => if q = p then F p ++ [x] else F q) := by
  obtain ⟨b', h1, _, h3⟩ := h.some_ p hp
  rw [hb] at h1; cases h1
  have hlow := h.low
  refine ⟨h.map.kept hg (fun e => by have := Option.some.inj e; omega), h.none_, fun q hq => ?_, h.far, h.keys, h.low⟩
  by_cases hqp : q = p
  · subst hqp
    refine ⟨b, hb, ?_, h3⟩
    rw [if_pos rfl, List.length_append, ← seenG_put]
    exact hput
  · obtain ⟨c, g1, g2, g3⟩ := h.some_ q hq
    rw [if_neg hqp]
    refine ⟨c, g1, g2.kept hg (fun e => ?_), g3⟩
    cases e
    exact h.far p q b (fun e => hqp e.symm) hb g1

/-! Which record has a number. -/
open Classical in
noncomputable def byG (l : List RD) : Lit → Option Value := fun k => (l.find? fun x => decide (k = .int .i64 x.r.id)).map fun x => .agg #[.int .i64 x.r.id, .slice x.A x.r.names.length x.c, .int .u8 x.r.suf, .int .i64 x.r.lo, .int .i64 x.r.hi, .string x.r.num, .bool x.r.twin, .slice x.D x.r.stays.length x.d]
theorem byG_nil : byG [] = fun _ => none := rfl
open Classical in
theorem byG_snoc (l : List RD) (x : RD) (hn : x.r.id ∉ l.map fun y => y.r.id) : putFn (byG l) (.int .i64 x.r.id) (.agg #[.int .i64 x.r.id, .slice x.A x.r.names.length x.c, .int .u8 x.r.suf, .int .i64 x.r.lo, .int .i64 x.r.hi, .string x.r.num, .bool x.r.twin, .slice x.D x.r.stays.length x.d]) = byG (l ++ [x]) := by
  funext k
  unfold putFn byG
  rw [List.find?_append]
  by_cases h : k = .int .i64 x.r.id
  · rw [if_pos h]
    have : (l.find? fun y => decide (k = .int .i64 y.r.id)) = none := by
      rw [List.find?_eq_none]
      intro y hy e
      simp only [decide_eq_true_eq] at e
      rw [h] at e
      injection e with _ e
      exact hn (e ▸ List.mem_map_of_mem hy)
    rw [this]
    simp [h]
  · rw [if_neg h]
    have : ([x].find? fun y => decide (k = .int .i64 y.r.id)) = none := by simp [h]
    rw [this, Option.or_none]
open Classical in
theorem byG_get {l : List RD} (hn : (l.map fun y => y.r.id).Nodup) {x : RD} (hx : x ∈ l) : byG l (.int .i64 x.r.id) = some (.agg #[.int .i64 x.r.id, .slice x.A x.r.names.length x.c, .int .u8 x.r.suf, .int .i64 x.r.lo, .int .i64 x.r.hi, .string x.r.num, .bool x.r.twin, .slice x.D x.r.stays.length x.d]) := by
  unfold byG
  cases hf : l.find? fun y => decide ((Lit.int .i64 x.r.id : Lit) = .int .i64 y.r.id) with
  | none =>
    rw [List.find?_eq_none] at hf
    exact absurd (by simp) (hf x hx)
  | some y =>
    have h1 := List.find?_some hf
    have h2 := List.mem_of_find?_eq_some hf
    simp only [decide_eq_true_eq] at h1
    injection h1 with _ h1
    have : y = x := by
      obtain ⟨i, hi, rfl⟩ := List.getElem_of_mem h2
      obtain ⟨j, hj, rfl⟩ := List.getElem_of_mem hx
      have h3 : l.Pairwise fun a b => a.r.id ≠ b.r.id := List.pairwise_map.1 hn
      rw [List.pairwise_iff_getElem] at h3
      rcases Nat.lt_trichotomy i j with h | h | h
      · exact absurd h1.symm (h3 i j hi hj h)
      · subst h; rfl
      · exact absurd h1 (h3 j i hj hi h)
    rw [this]; rfl

theorem id_inj {l : List RD} (hn : (l.map fun y => y.r.id).Nodup) {x y : RD} (hx : x ∈ l) (hy : y ∈ l) (h1 : x.r.id = y.r.id) : x = y := by
  obtain ⟨i, hi, rfl⟩ := List.getElem_of_mem hx
  obtain ⟨j, hj, rfl⟩ := List.getElem_of_mem hy
  have h3 : l.Pairwise fun a b => a.r.id ≠ b.r.id := List.pairwise_map.1 hn
  rw [List.pairwise_iff_getElem] at h3
  rcases Nat.lt_trichotomy i j with h | h | h
  · exact absurd h1 (h3 i j hi hj h)
  · subst h; rfl
  · exact absurd h1.symm (h3 j i hj hi h)

/-! How many keys a map has. -/
theorem size_keys {H : Type} {w : World} {P : Program} {k : TypeId} {R : Value → Option (DataW H × List MemPlace)} {b n : Nat} {D : DataW H} (hown : w.ownsMap P k R b n D) (K : Keyed P k) : Maps.size D = (Go.intKeys D).length := by
  obtain ⟨es, hD, _⟩ := hown.entries K
  rw [hD]
  show es.length = (es.map _).length
  simp
theorem size_of {w : World} {b n : Nat} {D : DataW Value} {G : Lit → Option Value} (hown : w.ownsMap Tryz.prog 3 rawElem b n D) (hat : ∀ kl z, D.atKey kl z = gotAt (G kl) z) {ks : List Int} (hn : ks.Nodup) (hk : ∀ p, p ∈ ks ↔ (G (.int .i64 p)).isSome = true) : Maps.size D = ks.length := by
  rw [size_keys hown (int_keyed Tryz.underlying3)]
  have hks := intKeys_spec hown (int_keyed Tryz.underlying3) Tryz.underlying3
  exact ((List.perm_ext_iff_of_nodup hks.1 hn).2 fun p => by rw [hks.2, has_some hat, hk]).length_eq

end Go.Proofs.YtbkmfomdhjhkpaaGreat

namespace Go.Proofs.YtbkmfomdhjhkpaaGreat
open Go.RowKit Go.Maps

theorem pairWide : (match Tryz.prog.underlying 71 with | some (.array _ _) | some (.struct _) => true | _ => false) = true := by rw [Tryz.underlying71]
theorem pairRowIn : (71 : TypeId) < Tryz.prog.types.size := of_decide_eq_true (by kernel_rfl)
theorem pairTyped : Tryz.prog.keyTypeAt 2 71 = true := by kernel_rfl
theorem pairLe : 2 + 1 ≤ 10000 := Nat.le_of_ble_eq_true rfl
set_option maxRecDepth 100000 in
theorem pairKeyed : Keyed Tryz.prog 71 := Keyed.of_law (deep_law_laid Tryz.laidOut (m := 2) pairLe pairRowIn pairTyped pairWide)

def PairWf (p : Int × Int) : Prop := (Lit.int .i64 p.1).wf = true ∧ (Lit.int .i64 p.2).wf = true
noncomputable def pairL (p : Int × Int) : Lit := .string (keyBytes [.int .i64 p.1, .int .i64 p.2])
theorem pairKey {p : Int × Int} (h : PairWf p) : keyOf Tryz.prog 71 (.agg #[.int .i64 p.1, .int .i64 p.2]) = some (pairL p) := by
  have hc2 : Tryz.prog.cellsOf 71 = 2 := by kernel_rfl
  have hc1 : Tryz.prog.cellsOf 3 = 1 := by kernel_rfl
  obtain ⟨m, hm⟩ : ∃ m, Tryz.prog.types.size = m + 1 := Nat.exists_eq_succ_of_ne_zero (Nat.ne_of_gt (Nat.lt_of_le_of_lt (Nat.zero_le _) pairRowIn))
  have h1 : ∀ n, (Lit.int .i64 n).wf = true → Tryz.prog.keyLits (m + 1) 3 [.int .i64 n] = some [.int .i64 n] := fun n hn => by
    unfold Program.keyLits; rw [Tryz.underlying3]; simp [hn]
  have h2 : Tryz.prog.keyType 71 = true := by kernel_rfl
  have h3 : (Value.agg #[.int .i64 p.1, .int .i64 p.2]).formed Tryz.prog 71 = true := by simp [Value.formed, Tryz.underlying71, hc2]
  unfold keyOf
  rw [Tryz.underlying71]
  simp only [h2, h3, Bool.and_self, if_true]
  rw [hm]
  unfold Program.keyLits
  rw [Tryz.underlying71]
  simp [Value.cells, hc2, hc1, List.range_succ, h1 p.1 h.1, h1 p.2 h.2, pairL]
theorem pairL_inj {p q : Int × Int} (hp : PairWf p) (hq : PairWf q) (e : pairL p = pairL q) : p = q := by
  have h := pairKeyed.inj (pairKey hp) (e ▸ pairKey hq)
  simp only [Value.agg.injEq, Array.mk.injEq, List.cons.injEq, Value.int.injEq, true_and, and_true] at h
  exact Prod.ext h.1 h.2

/-! What is found: pairs, each with a small number. -/
open Classical in
noncomputable def foundG (l : List ((Int × Int) × Int)) : Lit → Option Value := fun k => (l.find? fun x => decide (k = pairL x.1)).map fun x => .int .u8 x.2
theorem foundG_nil : foundG [] = fun _ => none := rfl
open Classical in
theorem foundG_snoc (l : List ((Int × Int) × Int)) (p : Int × Int) (v : Int) (hp : PairWf p) (hl : ∀ x ∈ l, PairWf x.1) (hn : p ∉ l.map (·.1)) : putFn (foundG l) (pairL p) (.int .u8 v) = foundG (l ++ [(p, v)]) := by
  funext k
  unfold putFn foundG
  rw [List.find?_append]
  by_cases h : k = pairL p
  · rw [if_pos h]
    have : (l.find? fun y => decide (k = pairL y.1)) = none := by
      rw [List.find?_eq_none]
      intro y hy e
      simp only [decide_eq_true_eq] at e
      exact hn (pairL_inj hp (hl y hy) (h.symm.trans e) ▸ List.mem_map_of_mem hy)
    rw [this]
    simp [h]
  · rw [if_neg h]
    have : ([(p, v)].find? fun y => decide (k = pairL y.1)) = none := by simp [h]
    rw [this, Option.or_none]
open Classical in
theorem foundG_get {l : List ((Int × Int) × Int)} (hw : ∀ x ∈ l, PairWf x.1) (hn : (l.map (·.1)).Nodup) {x : (Int × Int) × Int} (hx : x ∈ l) : foundG l (pairL x.1) = some (.int .u8 x.2) := by
  unfold foundG
  cases hf : l.find? fun y => decide (pairL x.1 = pairL y.1) with
  | none =>
    rw [List.find?_eq_none] at hf
    exact absurd (by simp) (hf x hx)
  | some y =>
    have h1 := List.find?_some hf
    have h2 := List.mem_of_find?_eq_some hf
    simp only [decide_eq_true_eq] at h1
    have h1 := pairL_inj (hw x hx) (hw y h2) h1
    have : y = x := by
      obtain ⟨i, hi, rfl⟩ := List.getElem_of_mem h2
      obtain ⟨j, hj, rfl⟩ := List.getElem_of_mem hx
      have h3 : l.Pairwise fun a b => a.1 ≠ b.1 := List.pairwise_map.1 hn
      rw [List.pairwise_iff_getElem] at h3
      rcases Nat.lt_trichotomy i j with h | h | h
      · exact absurd h1.symm (h3 i j hi hj h)
      · subst h; rfl
      · exact absurd h1 (h3 j i hj hi h)
    rw [this]; rfl
open Classical in
theorem foundG_none {l : List ((Int × Int) × Int)} (hw : ∀ x ∈ l, PairWf x.1) {p : Int × Int} (hp : PairWf p) (hn : p ∉ l.map (·.1)) : foundG l (pairL p) = none := by
  unfold foundG
  rw [Option.map_eq_none_iff, List.find?_eq_none]
  intro y hy e
  simp only [decide_eq_true_eq] at e
  exact hn (pairL_inj hp (hw y hy) e ▸ List.mem_map_of_mem hy)

end Go.Proofs.YtbkmfomdhjhkpaaGreat

namespace Go.Proofs.YtbkmfomdhjhkpaaGreat
open Go.RowKit Go.Maps

def foundL (u : Rul) (l : List Rec) : List ((Int × Int) × Int) := (pairsV u 1 l).map (fun p => (p, 1)) ++ (pairsV u 2 l).map (fun p => (p, 2))
theorem foundL_keys (u : Rul) (l : List Rec) : (foundL u l).map (·.1) = pairsV u 1 l ++ pairsV u 2 l := by
  unfold foundL
  rw [List.map_append, List.map_map, List.map_map]
  simp [Function.comp_def]
theorem foundL_nodup {u : Rul} {l : List Rec} (hR : rulesB u.l u.d u.y u.t = true) (hE : recsE l = 0) : ((foundL u l).map (·.1)).Nodup := by
  rw [foundL_keys, List.nodup_append]
  exact ⟨pairsV_nodup, pairsV_nodup, fun p hp q hq e => pairsV_apart hR hE hp (e ▸ hq)⟩
theorem recB_wf {r : Rec} (h : recB r = true) : (Lit.int .i64 r.id).wf = true := WalkArith.wf_i64 (by
  simp only [recB, Bool.and_eq_true] at h
  have := h.1.1.1.1.1
  simp [inB] at this
  omega)
theorem pairsV_wf {u : Rul} {k : Int} {l : List Rec} (hR : rulesB u.l u.d u.y u.t = true) (hE : recsE l = 0) : ∀ p ∈ pairsV u k l, PairWf p := fun p hp => by
  obtain ⟨r, hr, s, hs, _, _, rfl⟩ := (pairsV_mem hR hE p).1 hp
  have hB := ((recsE_iff l).1 hE).2.1
  exact ⟨recB_wf (hB r hr), recB_wf (hB s hs)⟩
theorem foundL_wf {u : Rul} {l : List Rec} (hR : rulesB u.l u.d u.y u.t = true) (hE : recsE l = 0) : ∀ x ∈ foundL u l, PairWf x.1 := fun x hx => by
  have hk : x.1 ∈ (foundL u l).map (·.1) := List.mem_map_of_mem hx
  rw [foundL_keys, List.mem_append] at hk
  rcases hk with h | h <;> exact pairsV_wf hR hE _ h
theorem foundL_length (u : Rul) (l : List Rec) : (foundL u l).length = (pairsV u 1 l).length + (pairsV u 2 l).length := by simp [foundL]
theorem oneF_le (names num born place sa sb : Int) (ta tb : Bool) : oneF names num born place sa sb ta tb = 0 ∨ oneF names num born place sa sb ta tb = 1 ∨ oneF names num born place sa sb ta tb = 2 := by
  unfold oneF
  repeat' split
  all_goals simp
/-- At a pair, the lesser number first, there is just what comparing the two says. -/
theorem foundL_at {u : Rul} {l : List Rec} (hR : rulesB u.l u.d u.y u.t = true) (hE : recsE l = 0) {r s : Rec} (hr : r ∈ l) (hs : s ∈ l) (hlt : r.id < s.id) : ((foundG (foundL u l)) (pairL (r.id, s.id))).getD (.int .u8 0) = .int .u8 (matF u r s).one := by
  have hB := ((recsE_iff l).1 hE).2.1
  have hw : PairWf (r.id, s.id) := ⟨recB_wf (hB r hr), recB_wf (hB s hs)⟩
  have hin : ∀ k, (matF u r s).one = k → (r.id, s.id) ∈ pairsV u k l := fun k hk => (pairsV_mem hR hE _).2 ⟨r, hr, s, hs, hlt, hk, rfl⟩
  rcases oneF_le (matF u r s).names (matF u r s).num (matF u r s).born (matF u r s).place r.suf s.suf r.twin s.twin with h | h | h
  · have h : (matF u r s).one = 0 := h
    rw [foundG_none (foundL_wf hR hE) hw, h]; rfl
    rw [foundL_keys, List.mem_append]
    have hnd := ((recsE_iff l).1 hE).2.2
    have inj : ∀ a ∈ l, ∀ b ∈ l, a.id = b.id → a = b := fun a ha b hb e => by
      obtain ⟨i, hi, rfl⟩ := List.getElem_of_mem ha
      obtain ⟨j, hj, rfl⟩ := List.getElem_of_mem hb
      have h3 : l.Pairwise fun a b => a.id ≠ b.id := List.pairwise_map.1 hnd
      rw [List.pairwise_iff_getElem] at h3
      rcases Nat.lt_trichotomy i j with h | h | h
      · exact absurd e (h3 i j hi hj h)
      · subst h; rfl
      · exact absurd e.symm (h3 j i hj hi h)
    rintro (e | e) <;>
    · obtain ⟨a, ha, b, hb, _, h2, h3⟩ := (pairsV_mem hR hE _).1 e
      simp only [Prod.mk.injEq] at h3
      obtain rfl := inj r hr a ha h3.1
      obtain rfl := inj s hs b hb h3.2
      omega
  · have h : (matF u r s).one = 1 := h
    have hx : ((r.id, s.id), (1 : Int)) ∈ foundL u l := List.mem_append_left _ (List.mem_map_of_mem (f := fun p : Int × Int => (p, (1 : Int))) (hin 1 h))
    have := foundG_get (foundL_wf hR hE) (foundL_nodup hR hE) hx
    rw [this, h]; rfl
  · have h : (matF u r s).one = 2 := h
    have hx : ((r.id, s.id), (2 : Int)) ∈ foundL u l := List.mem_append_right _ (List.mem_map_of_mem (f := fun p : Int × Int => (p, (2 : Int))) (hin 2 h))
    have := foundG_get (foundL_wf hR hE) (foundL_nodup hR hE) hx
    rw [this, h]; rfl
/-- At a pair the greater number first, or twice the same, there is nothing. -/
theorem foundL_not {u : Rul} {l : List Rec} (hR : rulesB u.l u.d u.y u.t = true) (hE : recsE l = 0) {r s : Rec} (hr : r ∈ l) (hs : s ∈ l) (hge : s.id ≤ r.id) : (foundG (foundL u l)) (pairL (r.id, s.id)) = none := by
  have hB := ((recsE_iff l).1 hE).2.1
  refine foundG_none (foundL_wf hR hE) ⟨recB_wf (hB r hr), recB_wf (hB s hs)⟩ ?_
  rw [foundL_keys, List.mem_append]
  rintro (e | e) <;>
  · obtain ⟨a, _, b, _, h1, _, h3⟩ := (pairsV_mem hR hE _).1 e
    simp only [Prod.mk.injEq] at h3
    omega

/-! How many keys a map has, whatever their type. -/
theorem size_lits {w : World} {P : Program} {k : TypeId} {b n : Nat} {D : DataW Value} {G : Lit → Option Value} (hown : w.ownsMap P k rawElem b n D) (K : Keyed P k) (hat : ∀ kl z, D.atKey kl z = gotAt (G kl) z) {ks : List Lit} (hn : ks.Nodup) (hk : ∀ x, x ∈ ks ↔ (G x).isSome = true) : Maps.size D = ks.length := by
  obtain ⟨es, hD, hpw, hkey⟩ := hown.entries K
  subst hD
  show es.length = ks.length
  have h1 : (es.map (·.1)).Nodup := List.pairwise_map.2 hpw
  have h2 : ∀ x, x ∈ es.map (·.1) ↔ (G x).isSome = true := fun x => by
    rw [← has_some hat, has_eq, List.any_eq_true, List.mem_map]
    constructor
    · rintro ⟨p, hp, rfl⟩
      exact ⟨p, hp, by have := hkey p hp; revert this; cases p.1 <;> simp [WideAt.IsKeyLit, Lit.sameKey]⟩
    · rintro ⟨p, hp, e⟩
      exact ⟨p, hp, WideAt.sameKey_eq e⟩
  have h3 := ((List.perm_ext_iff_of_nodup h1 hn).2 fun x => by rw [h2, hk]).length_eq
  rw [List.length_map] at h3
  exact h3
open Classical in
theorem foundG_isSome (l : List ((Int × Int) × Int)) (x : Lit) : (foundG l x).isSome = true ↔ x ∈ l.map fun y => pairL y.1 := by
  unfold foundG
  rw [Option.isSome_map, List.find?_isSome, List.mem_map]
  simp only [decide_eq_true_eq]
  exact ⟨fun ⟨y, hy, e⟩ => ⟨y, hy, e.symm⟩, fun ⟨y, hy, e⟩ => ⟨y, hy, e.symm⟩⟩
/-- The map of what was found has as many keys as there are pairs. -/
theorem found_size {w : World} {P : Program} {k : TypeId} {b n : Nat} {D : DataW Value} {u : Rul} {l : List Rec} (hR : rulesB u.l u.d u.y u.t = true) (hE : recsE l = 0) (hown : w.ownsMap P k rawElem b n D) (K : Keyed P k) (hat : ∀ kl z, D.atKey kl z = gotAt (foundG (foundL u l) kl) z) : Maps.size D = (pairsV u 1 l).length + (pairsV u 2 l).length := by
  have h : (foundL u l).Pairwise fun a b => a.1 ≠ b.1 := List.pairwise_map.1 (foundL_nodup hR hE)
  have hn : ((foundL u l).map fun y => pairL y.1).Nodup := List.pairwise_map.2 (h.imp_of_mem fun {x y} hx hy hne e => hne (pairL_inj (foundL_wf hR hE x hx) (foundL_wf hR hE y hy) e))
  have hs := size_lits (G := foundG (foundL u l)) hown K hat hn (fun x => (foundG_isSome (foundL u l) x).symm)
  rw [List.length_map, foundL_length] at hs
  exact hs

/-! Without the first record. -/
theorem pairs_tail {u : Rul} {k : Int} {x : Rec} {t : List Rec} (hR : rulesB u.l u.d u.y u.t = true) (hE : recsE (x :: t) = 0) (p : Int × Int) : p ∈ pairsV u k t ↔ p ∈ pairsV u k (x :: t) ∧ p.1 ≠ x.id ∧ p.2 ≠ x.id := by
  have hnd := ((recsE_iff (x :: t)).1 hE).2.2
  rw [List.map_cons, List.nodup_cons] at hnd
  have far : ∀ r ∈ t, r.id ≠ x.id := fun r hr e => hnd.1 (e ▸ List.mem_map_of_mem hr)
  rw [pairsV_sub hR (List.sublist_cons_self x t) hE]
  constructor
  · rintro ⟨h1, ⟨r, hr, e1⟩, ⟨s, hs, e2⟩⟩
    exact ⟨h1, fun e => far r hr (e1.trans e), fun e => far s hs (e2.trans e)⟩
  · rintro ⟨h1, n1, n2⟩
    refine ⟨h1, ?_⟩
    obtain ⟨r, hr, s, hs, _, _, rfl⟩ := (pairsV_mem hR hE p).1 h1
    rcases List.mem_cons.1 hr with rfl | hr
    · exact absurd rfl n1
    · rcases List.mem_cons.1 hs with rfl | hs
      · exact absurd rfl n2
      · exact ⟨⟨r, hr, rfl⟩, ⟨s, hs, rfl⟩⟩
theorem pairs_tail_length {u : Rul} {k : Int} {x : Rec} {t : List Rec} (hR : rulesB u.l u.d u.y u.t = true) (hE : recsE (x :: t) = 0) : ((pairsV u k (x :: t)).filter fun p => decide (p.1 ≠ x.id ∧ p.2 ≠ x.id)).length = (pairsV u k t).length := by
  refine ((List.perm_ext_iff_of_nodup (pairsV_nodup.filter _) pairsV_nodup).2 fun p => ?_).length_eq
  rw [pairs_tail hR hE, List.mem_filter, decide_eq_true_eq]
/-- Of what is found in all, just those pairs without the first record's number are the pairs of the others: as many. -/
theorem found_tail {u : Rul} {x : Rec} {t : List Rec} (hR : rulesB u.l u.d u.y u.t = true) (hE : recsE (x :: t) = 0) : ((foundL u (x :: t)).filter fun y => decide (y.1.1 ≠ x.id ∧ y.1.2 ≠ x.id)).length = (pairsV u 1 t).length + (pairsV u 2 t).length := by
  unfold foundL
  rw [List.filter_append, List.length_append, List.filter_map, List.filter_map, List.length_map, List.length_map, ← pairs_tail_length (k := 1) hR hE, ← pairs_tail_length (k := 2) hR hE]
  rfl
/-- A pair of the others is found in all, with its number. -/
theorem found_open {u : Rul} {k : Int} {x : Rec} {t : List Rec} (hk : k = 1 ∨ k = 2) (hR : rulesB u.l u.d u.y u.t = true) (hE : recsE (x :: t) = 0) {p : Int × Int} (hp : p ∈ pairsV u k t) : foundG (foundL u (x :: t)) (pairL p) = some (.int .u8 k) ∧ p.1 ≠ x.id ∧ p.2 ≠ x.id := by
  obtain ⟨h1, h2, h3⟩ := (pairs_tail hR hE p).1 hp
  refine ⟨?_, h2, h3⟩
  have hx : (p, k) ∈ foundL u (x :: t) := by
    rcases hk with rfl | rfl
    · exact List.mem_append_left _ (List.mem_map_of_mem (f := fun p : Int × Int => (p, (1 : Int))) h1)
    · exact List.mem_append_right _ (List.mem_map_of_mem (f := fun p : Int × Int => (p, (2 : Int))) h1)
  have h4 := foundG_get (foundL_wf hR hE) (foundL_nodup hR hE) hx
  exact h4

end Go.Proofs.YtbkmfomdhjhkpaaGreat

namespace Go.Proofs.YtbkmfomdhjhkpaaGreat
open Go.RowKit Go.Maps

/-! Appends whose outcome may be empty, of a list that may be nil. -/
theorem grown_none (w : World) (row : Option Nat) : w.grownBy w row := ⟨rfl, rfl, rfl, Nat.le_refl _, fun _ _ _ => rfl⟩
theorem run_append_opt {P : Program} (w : World) (t ty : TypeId) (base : Nat) (e : TypeId) (i : TypeInfo) (z : Value) (size bytes : Nat) (ht : P.underlying t = some (.slice e)) (hi : P.info? e = some i) (hz : i.zero = some z)
    (hsize : i.size = size) (hby : i.bytes = bytes) (hzs : z.cells.size = size) (hsz : 0 < size)
    (v : Value) (n : Nat) (xs : List Value) (hown : w.ownsRow base e size v n xs)
    (A : Option Addr) (m c : Nat) (news : List Value) (hA : A = none → m = 0 ∧ c = 0) (hl : news.length = m * size) (hnews : ∀ ad, A = some ad → ∀ j u, news[j]? = some u → w.cell? (ad.add j) = some u) (h1 : ∀ u ∈ news, u.oneCell' = true)
    (h63 : n + m ≤ maxLen) (hbytes : (n + m) * bytes ≤ 140737488355328) (hbase : base ≤ w.heap.size) :
    ∃ v' w', (Builtin.append_ #[t, t] ty #[v, .slice A m c]).run P w = .ok v' w' ∧ w'.ownsRow base e size v' (n + m) (xs ++ news) ∧ w.grownBy w' v.ownBlock ∧ (v'.ownBlock = v.ownBlock ∨ v'.ownBlock = some w.heap.size) := by
  cases A with
  | none =>
    obtain ⟨rfl, rfl⟩ := hA rfl
    obtain rfl : news = [] := List.eq_nil_of_length_eq_zero (by simpa using hl)
    refine ⟨v, w, run_append_owned_none (w := w) base t ty e i size ht hi v n xs hown, by simpa using hown, grown_none w _, .inl rfl⟩
  | some ad =>
    obtain ⟨v', w', hr, h2, h3, _, h5⟩ := run_append_own_at (P := P) w base t ty e i z size bytes ht hi hz hsize hby hzs hsz v n xs hown ad m c news hl (hnews ad rfl) h1 h63 hbytes hbase
    exact ⟨v', w', hr, h2, h3, h5⟩
/-- At a step of a region that draws. -/
theorem step_append_opt {P : Program} {w : World} {ops : Array Oper} {o : Oper} {a : Act} {K : Act → World → Prop} {Q : Exit → Act → World → Prop} {E : Prop} (hgd : o.guard = none) (s x : Operand) (t : TypeId)
    (ho : o.op = .call { callee := .builtin .append, args := #[s, x], argTypes := #[t, t] })
    (base : Nat) (e : TypeId) (i : TypeInfo) (z : Value) (size bytes : Nat) (ht : P.underlying t = some (.slice e)) (hi : P.info? e = some i) (hz : i.zero = some z)
    (hsize : i.size = size) (hby : i.bytes = bytes) (hzs : z.cells.size = size) (hsz : 0 < size)
    (v : Value) (n : Nat) (xs : List Value) (hs : a.eval s = v) (hown : w.ownsRow base e size v n xs)
    (A : Option Addr) (m c : Nat) (news : List Value) (hx : a.eval x = .slice A m c) (hA : A = none → m = 0 ∧ c = 0) (hl : news.length = m * size) (hnews : ∀ ad, A = some ad → ∀ j u, news[j]? = some u → w.cell? (ad.add j) = some u) (h1 : ∀ u ∈ news, u.oneCell' = true)
    (h63 : n + m ≤ maxLen) (hbytes : (n + m) * bytes ≤ 140737488355328) (hbase : base ≤ w.heap.size)
    (h : ∀ v' w', w'.ownsRow base e size v' (n + m) (xs ++ news) → w.grownBy w' v.ownBlock → (v'.ownBlock = v.ownBlock ∨ v'.ownBlock = some w.heap.size) → K (a.put o.dst v') w') :
    if Region.wanted o (yielded ops a.tmps) = true then Oper.wp P o a w K Q else E := by
  have hw : Region.wanted o (yielded ops a.tmps) = true := by simp [Region.wanted, hgd]
  rw [if_pos hw]
  obtain ⟨v', w', hr, h2, h3, h4⟩ := run_append_opt (P := P) w t o.type base e i z size bytes ht hi hz hsize hby hzs hsz v n xs hown A m c news hA hl hnews h1 h63 hbytes hbase
  unfold Oper.wp execOp
  simp only [ho, resolve, invoke, builtin, Sem.run_bind, Sem.run_pure, Result.andThen_ok, List.map_toArray, List.map_cons, List.map_nil, hs, hx, hr]
  exact h v' w' h2 h3 h4
/-- At the list of a plain region's operations. -/
theorem wpList_append_opt {P : Program} {w : World} {ops : Array Oper} {rest : List Oper} {o : Oper} {a : Act} {Q : Exit → Act → World → Prop} (hgd : o.guard = none) (s x : Operand) (t : TypeId)
    (ho : o.op = .call { callee := .builtin .append, args := #[s, x], argTypes := #[t, t] })
    (base : Nat) (e : TypeId) (i : TypeInfo) (z : Value) (size bytes : Nat) (ht : P.underlying t = some (.slice e)) (hi : P.info? e = some i) (hz : i.zero = some z)
    (hsize : i.size = size) (hby : i.bytes = bytes) (hzs : z.cells.size = size) (hsz : 0 < size)
    (v : Value) (n : Nat) (xs : List Value) (hs : a.eval s = v) (hown : w.ownsRow base e size v n xs)
    (A : Option Addr) (m c : Nat) (news : List Value) (hx : a.eval x = .slice A m c) (hA : A = none → m = 0 ∧ c = 0) (hl : news.length = m * size) (hnews : ∀ ad, A = some ad → ∀ j u, news[j]? = some u → w.cell? (ad.add j) = some u) (h1 : ∀ u ∈ news, u.oneCell' = true)
    (h63 : n + m ≤ maxLen) (hbytes : (n + m) * bytes ≤ 140737488355328) (hbase : base ≤ w.heap.size)
    (h : ∀ v' w', w'.ownsRow base e size v' (n + m) (xs ++ news) → w.grownBy w' v.ownBlock → (v'.ownBlock = v.ownBlock ∨ v'.ownBlock = some w.heap.size) → wpList P ops Q rest (a.put o.dst v') w') :
    wpList P ops Q (o :: rest) a w := by
  refine wpList_plain hgd fun K hK => ?_
  obtain ⟨v', w', hr, h2, h3, h4⟩ := run_append_opt (P := P) w t o.type base e i z size bytes ht hi hz hsize hby hzs hsz v n xs hown A m c news hA hl hnews h1 h63 hbytes hbase
  unfold Oper.wp execOp
  simp only [ho, resolve, invoke, builtin, Sem.run_bind, Sem.run_pure, Result.andThen_ok, List.map_toArray, List.map_cons, List.map_nil, hs, hx, hr]
  exact hK _ _ (h v' w' h2 h3 h4)

/-! Appends whose outcome has an element at least. -/
theorem run_append_len {P : Program} (w : World) (t ty : TypeId) (base : Nat) (e : TypeId) (i : TypeInfo) (z : Value) (size bytes : Nat) (ht : P.underlying t = some (.slice e)) (hi : P.info? e = some i) (hz : i.zero = some z)
    (hsize : i.size = size) (hby : i.bytes = bytes) (hzs : z.cells.size = size) (hsz : 0 < size)
    (v : Value) (n : Nat) (xs : List Value) (hown : w.ownsRow base e size v n xs)
    (ad : Addr) (m c : Nat) (news : List Value) (hl : news.length = m * size) (hnews : ∀ j u, news[j]? = some u → w.cell? (ad.add j) = some u) (h1 : ∀ u ∈ news, u.oneCell' = true)
    (hm : 0 < n + m) (h63 : n + m ≤ maxLen) (hbytes : (n + m) * bytes ≤ 140737488355328) (hbase : base ≤ w.heap.size) :
    ∃ g cap w', (Builtin.append_ #[t, t] ty #[v, .slice (some ad) m c]).run P w = .ok (.slice (some ⟨g, 0, none⟩) (n + m) cap) w' ∧
      w'.ownsRow base e size (.slice (some ⟨g, 0, none⟩) (n + m) cap) (n + m) (xs ++ news) ∧ w.grownBy w' v.ownBlock ∧ (v.ownBlock = some g ∨ g = w.heap.size) ∧ base ≤ g ∧ g < w'.heap.size := by
  obtain ⟨v', w', hr, h2, h3, _, h5⟩ := run_append_own_at (P := P) w base t ty e i z size bytes ht hi hz hsize hby hzs hsz v n xs hown ad m c news hl hnews h1 h63 hbytes hbase
  obtain ⟨g, cap, rfl, hbg, hlt⟩ := h2.form hm
  refine ⟨g, cap, w', hr, h2, h3, ?_, hbg, hlt⟩
  rcases h5 with h5 | h5
  · exact .inl (by rw [← h5]; rfl)
  · exact .inr (by simpa [Value.ownBlock] using h5)
/-- What an append leaves whose outcome has an element at least: at a step of a region that draws. -/
theorem step_append_len {P : Program} {w : World} {ops : Array Oper} {o : Oper} {a : Act} {K : Act → World → Prop} {Q : Exit → Act → World → Prop} {E : Prop} (hgd : o.guard = none) (s x : Operand) (t : TypeId)
    (ho : o.op = .call { callee := .builtin .append, args := #[s, x], argTypes := #[t, t] })
    (base : Nat) (e : TypeId) (i : TypeInfo) (z : Value) (size bytes : Nat) (ht : P.underlying t = some (.slice e)) (hi : P.info? e = some i) (hz : i.zero = some z)
    (hsize : i.size = size) (hby : i.bytes = bytes) (hzs : z.cells.size = size) (hsz : 0 < size)
    (v : Value) (n : Nat) (xs : List Value) (hs : a.eval s = v) (hown : w.ownsRow base e size v n xs)
    (ad : Addr) (m c : Nat) (news : List Value) (hx : a.eval x = .slice (some ad) m c) (hl : news.length = m * size) (hnews : ∀ j u, news[j]? = some u → w.cell? (ad.add j) = some u) (h1 : ∀ u ∈ news, u.oneCell' = true)
    (hm : 0 < n + m) (h63 : n + m ≤ maxLen) (hbytes : (n + m) * bytes ≤ 140737488355328) (hbase : base ≤ w.heap.size)
    (h : ∀ g cap w', w'.ownsRow base e size (.slice (some ⟨g, 0, none⟩) (n + m) cap) (n + m) (xs ++ news) → w.grownBy w' v.ownBlock → (v.ownBlock = some g ∨ g = w.heap.size) → base ≤ g → g < w'.heap.size → K (a.put o.dst (.slice (some ⟨g, 0, none⟩) (n + m) cap)) w') :
    if Region.wanted o (yielded ops a.tmps) = true then Oper.wp P o a w K Q else E := by
  have hw : Region.wanted o (yielded ops a.tmps) = true := by simp [Region.wanted, hgd]
  rw [if_pos hw]
  obtain ⟨g, cap, w', hr, h2, h3, h4, h5, h6⟩ := run_append_len (P := P) w t o.type base e i z size bytes ht hi hz hsize hby hzs hsz v n xs hown ad m c news hl hnews h1 hm h63 hbytes hbase
  unfold Oper.wp execOp
  simp only [ho, resolve, invoke, builtin, Sem.run_bind, Sem.run_pure, Result.andThen_ok, List.map_toArray, List.map_cons, List.map_nil, hs, hx, hr]
  exact h g cap w' h2 h3 h4 h5 h6

/-! A list of records that is turned, and one without its first. -/
theorem recCells_drop (l : List RD) (k : Nat) : (l.drop k).flatMap recCells = (l.flatMap recCells).drop (k * 8) := by
  induction k generalizing l with
  | zero => simp
  | succ k ih =>
    cases l with
    | nil => simp
    | cons x l =>
      have e : (x :: l).flatMap recCells = recCells x ++ l.flatMap recCells := rfl
      have e8 : (recCells x).length = 8 := rfl
      have e0 : (recCells x).drop ((recCells x).length + k * 8) = [] := List.drop_eq_nil_of_le (by omega)
      rw [List.drop_succ_cons, ih, e, show (k + 1) * 8 = (recCells x).length + k * 8 by rw [e8]; omega, List.drop_append, e0, List.nil_append, Nat.add_sub_cancel_left]
theorem recCells_take (l : List RD) (k : Nat) : (l.take k).flatMap recCells = (l.flatMap recCells).take (k * 8) := by
  induction k generalizing l with
  | zero => simp
  | succ k ih =>
    cases l with
    | nil => simp
    | cons x l =>
      have e : (x :: l).flatMap recCells = recCells x ++ l.flatMap recCells := rfl
      have e8 : (recCells x).length = 8 := rfl
      rw [List.take_succ_cons, e, show (k + 1) * 8 = (recCells x).length + k * 8 by rw [e8]; omega, List.take_length_add_append, ← ih]
      rfl
theorem Recs.tail {w : World} {B b off : Nat} {x : RD} {t : List RD} (h : Recs w B (some ⟨b, off, none⟩) (x :: t)) : Recs w B (some ⟨b, off + 8, none⟩) t := fun k hk => by
  obtain ⟨b', off', e, h1, h2, h3⟩ := h (k + 1) (by simpa using hk)
  cases e
  refine ⟨b, off + 8, rfl, h1, fun i hi => ?_, by simpa using h3⟩
  have := h2 i hi
  rw [show off + (k + 1) * 8 + i = off + 8 + k * 8 + i by omega] at this
  simpa using this

theorem Recs.ofMem {w : World} {B : Nat} {A : Option Addr} {l : List RD} (h : Recs w B A l) {x : RD} (hx : x ∈ l) : RecAt w B x.A x.D x.r ∧ x.r.names.length ≤ x.c := by
  obtain ⟨i, hi, rfl⟩ := List.getElem_of_mem hx
  obtain ⟨_, _, _, _, _, h1, h2⟩ := h i hi
  exact ⟨h1, h2⟩
theorem own_none {w : World} {base : Nat} {e : TypeId} {size n c : Nat} {A : Option Addr} {xs : List Value} (h : w.ownsRow base e size (.slice A n c) n xs) : A = none → n = 0 ∧ c = 0 := fun hA => by
  subst hA
  rcases h.2 with ⟨h1, h2⟩ | ⟨g, cap, cur, h1, _⟩
  · injection h1 with _ _ h3
    exact ⟨h2, h3⟩
  · cases h1

/-! What a range comes upon. -/
open Classical in
theorem byG_some {l : List RD} {k : Lit} {v : Value} (h : byG l k = some v) : ∃ x ∈ l, k = .int .i64 x.r.id ∧ v = .agg #[.int .i64 x.r.id, .slice x.A x.r.names.length x.c, .int .u8 x.r.suf, .int .i64 x.r.lo, .int .i64 x.r.hi, .string x.r.num, .bool x.r.twin, .slice x.D x.r.stays.length x.d] := by
  unfold byG at h
  cases hf : l.find? fun x => decide (k = .int .i64 x.r.id) with
  | none => rw [hf] at h; cases h
  | some y =>
    rw [hf] at h
    have h1 := List.find?_some hf
    simp only [decide_eq_true_eq] at h1
    exact ⟨y, List.mem_of_find?_eq_some hf, h1, (Option.some.inj h).symm⟩
open Classical in
theorem foundG_some {l : List ((Int × Int) × Int)} {k : Lit} {v : Value} (h : foundG l k = some v) : ∃ y ∈ l, k = pairL y.1 ∧ v = .int .u8 y.2 := by
  unfold foundG at h
  cases hf : l.find? fun x => decide (k = pairL x.1) with
  | none => rw [hf] at h; cases h
  | some y =>
    rw [hf] at h
    have h1 := List.find?_some hf
    simp only [decide_eq_true_eq] at h1
    exact ⟨y, List.mem_of_find?_eq_some hf, h1, (Option.some.inj h).symm⟩

/-- How many of those that have come are without the number a. -/
def farB (a : Int) (p : Int × Int) : Bool := decide (p.1 ≠ a ∧ p.2 ≠ a)
noncomputable def restL (F : List ((Int × Int) × Int)) (a : Int) (left : Lit → Bool) : Nat := (F.filter fun y => !left (pairL y.1) && farB a y.1).length
theorem restL_zero {F : List ((Int × Int) × Int)} {a : Int} {left : Lit → Bool} (h : ∀ y ∈ F, left (pairL y.1) = true) : restL F a left = 0 := by
  unfold restL
  rw [List.length_eq_zero_iff, List.filter_eq_nil_iff]
  intro y hy
  simp [h y hy]
theorem restL_end {F : List ((Int × Int) × Int)} {a : Int} {left : Lit → Bool} (h : ∀ kl, left kl = false) : restL F a left = (F.filter fun y => decide (y.1.1 ≠ a ∧ y.1.2 ≠ a)).length := by
  unfold restL farB
  simp [h]
theorem restL_le (F : List ((Int × Int) × Int)) (a : Int) (left : Lit → Bool) : restL F a left ≤ F.length := List.length_filter_le _ _
theorem pairL_same (p : Int × Int) : (pairL p).sameKey (pairL p) = true := by simp [pairL, Lit.sameKey]
theorem restL_next {F : List ((Int × Int) × Int)} {a : Int} {left : Lit → Bool} {y : (Int × Int) × Int} (hw : ∀ x ∈ F, PairWf x.1) (hn : (F.map (·.1)).Nodup) (hy : y ∈ F) (hl : left (pairL y.1) = true) :
    restL F a (fun z => left z && !z.sameKey (pairL y.1)) = restL F a left + (if farB a y.1 = true then 1 else 0) := by
  obtain ⟨F1, F2, rfl⟩ := List.append_of_mem hy
  rw [List.map_append, List.map_cons, List.nodup_append, List.nodup_cons] at hn
  have far : ∀ x ∈ F1 ++ F2, ((pairL x.1).sameKey (pairL y.1)) = false := fun x hx => by
    rw [Bool.eq_false_iff]
    intro e
    have hx' : x ∈ F1 ++ y :: F2 := by rcases List.mem_append.1 hx with h | h <;> simp [h]
    have e2 : x.1 = y.1 := pairL_inj (hw x hx') (hw y hy) (WideAt.sameKey_eq e)
    rcases List.mem_append.1 hx with h | h
    · exact hn.2.2 x.1 (List.mem_map_of_mem h) y.1 List.mem_cons_self e2
    · exact hn.2.1.1 (e2 ▸ List.mem_map_of_mem h)
  have f1 : F1.filter (fun x => !(left (pairL x.1) && !(pairL x.1).sameKey (pairL y.1)) && farB a x.1) = F1.filter fun x => !left (pairL x.1) && farB a x.1 := List.filter_congr fun x hx => by rw [far x (List.mem_append_left _ hx)]; simp
  have f2 : F2.filter (fun x => !(left (pairL x.1) && !(pairL x.1).sameKey (pairL y.1)) && farB a x.1) = F2.filter fun x => !left (pairL x.1) && farB a x.1 := List.filter_congr fun x hx => by rw [far x (List.mem_append_right _ hx)]; simp
  unfold restL
  rw [List.filter_append, List.filter_append, List.filter_cons, List.filter_cons, f1, f2]
  simp only [pairL_same, hl, Bool.not_true, Bool.and_false, Bool.not_false, Bool.true_and, Bool.false_and, List.length_append]
  by_cases h : farB a y.1 = true
  · simp [h]; omega
  · simp [h]

theorem pairsV_few (u : Rul) (k : Int) (l : List Rec) : (pairsV u k l).length ≤ 576 := by
  unfold pairsV
  split
  · rename_i hE
    have h24 : l.length ≤ 24 := by
      unfold pairsE at hE
      split at hE
      · exact (recB_of_zero hE).2
      · omega
    have h1 := pairTo_le u k (sortR l) l.length
    have h2 : (sortR l).length = l.length := (sortR_perm l).length_eq
    rw [h2] at h1
    have h3 : l.length * l.length ≤ 24 * 24 := Nat.mul_le_mul h24 h24
    omega
  · simp

/-! All that the walk asks of plain data, of a list and of one that has the same records, x0 first. -/
def foundOf (P1 P2 : List (Int × Int)) : List ((Int × Int) × Int) := P1.map (fun p => (p, 1)) ++ P2.map (fun p => (p, 2))
structure PairsD (u : Rul) (l : List RD) (x0 : RD) (P1 P2 Q1 Q2 : List (Int × Int)) : Prop where
  s1 : P1.Pairwise lexLt
  s2 : P2.Pairwise lexLt
  w1 : ∀ p ∈ P1, PairWf p
  w2 : ∀ p ∈ P2, PairWf p
  n1 : P1.length ≤ 576
  n2 : P2.length ≤ 576
  m1 : Q1.length ≤ 576
  m2 : Q2.length ≤ 576
  wf : ∀ y ∈ foundOf P1 P2, PairWf y.1
  nodup : ((foundOf P1 P2).map (·.1)).Nodup
  at_ : ∀ x ∈ l, ∀ y ∈ l, x.r.id < y.r.id → (foundG (foundOf P1 P2) (pairL (x.r.id, y.r.id))).getD (.int .u8 0) = .int .u8 (matF u x.r y.r).one
  not_ : ∀ x ∈ l, ∀ y ∈ l, y.r.id ≤ x.r.id → foundG (foundOf P1 P2) (pairL (x.r.id, y.r.id)) = none
  size : ∀ {w : World} {b n : Nat} {D : DataW Value}, w.ownsMap Tryz.prog 71 rawElem b n D → (∀ kl z, D.atKey kl z = gotAt (foundG (foundOf P1 P2) kl) z) → Maps.size D = P2.length + P1.length
  q1 : ∀ p ∈ Q1, foundG (foundOf P1 P2) (pairL p) = some (.int .u8 1) ∧ p.1 ≠ x0.r.id ∧ p.2 ≠ x0.r.id ∧ PairWf p
  q2 : ∀ p ∈ Q2, foundG (foundOf P1 P2) (pairL p) = some (.int .u8 2) ∧ p.1 ≠ x0.r.id ∧ p.2 ≠ x0.r.id ∧ PairWf p
  cnt : ((foundOf P1 P2).filter fun y => decide (y.1.1 ≠ x0.r.id ∧ y.1.2 ≠ x0.r.id)).length = Q2.length + Q1.length

/-! What is found, step by step. -/
theorem found_step {base : List ((Int × Int) × Int)} {P : List (Int × Int)} {kk : Int} {n : Nat} (h : n < P.length) : base ++ (P.take (n + 1)).map (fun p => (p, kk)) = (base ++ (P.take n).map (fun p => (p, kk))) ++ [(P[n], kk)] := by
  rw [List.take_succ_eq_append_getElem h, List.map_append, List.append_assoc]; rfl
theorem found_new {base : List ((Int × Int) × Int)} {P : List (Int × Int)} {kk : Int} {n : Nat} (hn : ((base ++ P.map (fun p => (p, kk))).map (·.1)).Nodup) (h : n < P.length) : P[n] ∉ (base ++ (P.take n).map (fun p => (p, kk))).map (·.1) := by
  have e : base ++ P.map (fun p => (p, kk)) = (base ++ (P.take n).map (fun p => (p, kk))) ++ ((P[n], kk) :: (P.drop (n + 1)).map (fun p => (p, kk))) := by
    rw [List.append_assoc, ← List.map_cons (f := fun p : Int × Int => (p, kk)), ← List.drop_eq_getElem_cons h, ← List.map_append, List.take_append_drop]
  rw [e, List.map_append, List.nodup_append] at hn
  exact fun hx => hn.2.2 _ hx _ (by simp) rfl
theorem found_sub {base : List ((Int × Int) × Int)} {P : List (Int × Int)} {kk : Int} (n : Nat) : ∀ x ∈ base ++ (P.take n).map (fun p => (p, kk)), x ∈ base ++ P.map (fun p => (p, kk)) := fun x hx => by
  rcases List.mem_append.1 hx with h | h
  · exact List.mem_append_left _ h
  · obtain ⟨p, hp, rfl⟩ := List.mem_map.1 h
    exact List.mem_append_right _ (List.mem_map_of_mem (f := fun p : Int × Int => (p, kk)) (List.mem_of_mem_take hp))
theorem nodup_base {P1 P2 : List (Int × Int)} (h : ((foundOf P1 P2).map (·.1)).Nodup) : ((([] : List ((Int × Int) × Int)) ++ P1.map (fun p => (p, (1 : Int)))).map (·.1)).Nodup := by
  unfold foundOf at h
  rw [List.map_append, List.nodup_append] at h
  exact h.1
def preL (P1 P2 : List (Int × Int)) : Nat → List ((Int × Int) × Int)
  | 0 => []
  | 1 => [] ++ P1.map (fun p => (p, 1))
  | _ => foundOf P1 P2

/-! Pairs in memory, as cells to be appended. -/
theorem pairCells_one (l : List (Int × Int)) : ∀ u ∈ pairCells l, u.oneCell' = true := fun u hu => by
  obtain ⟨p, _, hp⟩ := List.mem_flatMap.1 hu
  simp only [List.mem_cons, List.not_mem_nil, or_false] at hp
  rcases hp with rfl | rfl <;> rfl
theorem pairCells_append (l m : List (Int × Int)) : pairCells (l ++ m) = pairCells l ++ pairCells m := by simp [pairCells]
theorem Prs.news {w : World} {B : Nat} {A : Option Addr} {l : List (Int × Int)} (h : Prs w B A l) : ∀ ad, A = some ad → ∀ j u, (pairCells l)[j]? = some u → w.cell? (ad.add j) = some u := fun ad e j u hj => by
  obtain ⟨q, i, hi, rfl⟩ : ∃ q i, i < 2 ∧ j = q * 2 + i := ⟨j / 2, j % 2, by omega, by omega⟩
  have hq : q < l.length := by
    have := (List.getElem?_eq_some_iff.1 hj).1
    rw [pairCells_len] at this; omega
  obtain ⟨b, off, he, _, h1, h2⟩ := h q hq
  obtain ⟨g1, g2⟩ := pairCells_get l q hq
  rw [e] at he
  cases he
  rw [WideShapes.add_plain]
  rcases (show i = 0 ∨ i = 1 by omega) with rfl | rfl
  · rw [Nat.add_zero] at hj ⊢
    rw [h1, ← g1, hj]
  · rw [← Nat.add_assoc, h2, ← g2, hj]

theorem restL_start {F : List ((Int × Int) × Int)} {a : Int} {D : DataW Value} (hat : ∀ kl z, D.atKey kl z = gotAt (foundG F kl) z) : restL F a (has D) = 0 := restL_zero (fun y hy => by
  rw [has_some hat]
  exact (foundG_isSome F _).2 (List.mem_map_of_mem (f := fun y : (Int × Int) × Int => pairL y.1) hy))

theorem pairsD_of {u : Rul} {l : List RD} {x0 : RD} {t : List RD} (hR : rulesB u.l u.d u.y u.t = true) (hz : recsE (l.map RD.r) = 0) (hp : (x0 :: t).Perm l) :
    PairsD u l x0 (pairsV u 1 (l.map RD.r)) (pairsV u 2 (l.map RD.r)) (pairsV u 1 (t.map RD.r)) (pairsV u 2 (t.map RD.r)) := by
  have hpm : (l.map RD.r).Perm (x0.r :: t.map RD.r) := (hp.map RD.r).symm
  have hz' := recsE_perm hpm hz
  have hF : foundL u (x0.r :: t.map RD.r) = foundL u (l.map RD.r) := by
    unfold foundL
    rw [pairsV_perm hR hpm hz, pairsV_perm hR hpm hz]
  have hzt : recsE (t.map RD.r) = 0 := recsE_sub (List.sublist_cons_self x0.r (t.map RD.r)) hz'
  have hc := found_tail hR hz'
  rw [hF] at hc
  exact {
    s1 := pairsV_strict
    s2 := pairsV_strict
    w1 := pairsV_wf hR hz
    w2 := pairsV_wf hR hz
    n1 := pairsV_few _ _ _
    n2 := pairsV_few _ _ _
    m1 := pairsV_few _ _ _
    m2 := pairsV_few _ _ _
    wf := foundL_wf hR hz
    nodup := foundL_nodup hR hz
    at_ := fun x hx y hy hlt => foundL_at hR hz (List.mem_map_of_mem hx) (List.mem_map_of_mem hy) hlt
    not_ := fun x hx y hy hge => foundL_not hR hz (List.mem_map_of_mem hx) (List.mem_map_of_mem hy) hge
    size := fun hown hat => (found_size hR hz hown pairKeyed hat).trans (Nat.add_comm _ _)
    q1 := fun p hp => by
      have h1 := found_open (k := 1) (.inl rfl) hR hz' hp
      rw [hF] at h1
      exact ⟨h1.1, h1.2.1, h1.2.2, pairsV_wf hR hzt p hp⟩
    q2 := fun p hp => by
      have h1 := found_open (k := 2) (.inr rfl) hR hz' hp
      rw [hF] at h1
      exact ⟨h1.1, h1.2.1, h1.2.2, pairsV_wf hR hzt p hp⟩
    cnt := hc.trans (Nat.add_comm _ _) }

end Go.Proofs.YtbkmfomdhjhkpaaGreat

namespace Go.Proofs.YtbkmfomdhjhkpaaGreat
open Go.ChangeShapes Go.WideShapes Go.ChangeAt Go.RowKit Go.Deep

section
variable {H : Type} {enc : TypeId × Value → H} {w : World} {base : Nat} {spare : Nat → Bool} {held : Bool}

set_option maxRecDepth 100000 in
theorem recs_of_trod {fuel : Nat} {v : Value} {x : DataW H × List MemPlace} (h : DataW.trod enc Tryz.prog w base spare held fuel 24 [v] = some x) :
    ∃ A c l, v = .slice A (List.length l) c ∧ Recs w w.heap.size A l ∧ (∀ z ∈ l, RecWf z.r) ∧ l.length ≤ maxLen := by
  have hC : Tryz.prog.cellsOf 47 = 8 := by kernel_rfl
  rcases open_slice Tryz.underlying24 h with ⟨hc, _⟩ | ⟨a, len, cap, m, n, Dx, Pl, hc, _, hl, hm, hmm, _, hcell⟩
  · simp only [List.cons.injEq, and_true] at hc
    exact ⟨none, 0, [], by simpa using hc, fun k hk => by simp at hk, fun z hz => by simp at hz, by simp [maxLen]⟩
  · simp only [List.cons.injEq, and_true] at hc
    have hlm : len ≤ m := by rw [hmm]; split <;> omega
    have each : ∀ i, i < len → ∃ z : RD, (∀ j, j < 8 → w.cell? (a.add (i * 8 + j)) = (#[.int .i64 z.r.id, .slice z.A z.r.names.length z.c, .int .u8 z.r.suf, .int .i64 z.r.lo, .int .i64 z.r.hi, .string z.r.num, .bool z.r.twin, .slice z.D z.r.stays.length z.d] : Array Value)[j]?) ∧ RecAt w w.heap.size z.A z.D z.r ∧ RecWf z.r ∧ z.r.names.length ≤ z.c := fun i hi => by
      obtain ⟨cs', h1, h2⟩ := hcell i (by omega)
      rw [hC] at h1
      obtain ⟨_, hlen, hat⟩ := World.cells?_some h1
      obtain ⟨r, A, c, D, d, rfl, hr, hwf, hcap⟩ := rec_of_trod h2
      refine ⟨⟨r, A, c, D, d⟩, fun j hj => ?_, hr, hwf, hcap⟩
      rw [← Go.Addr.add_add, hat j (by omega)]
      simp
    obtain ⟨S, hS⟩ := choose_lt each
    refine ⟨some a, cap, (List.range len).map S, by rw [hc]; simp, fun k hk => ?_, fun z hz => ?_, by simp; omega⟩
    · simp only [List.length_map, List.length_range] at hk
      obtain ⟨h1, h2, h3, h4⟩ := hS k hk
      obtain ⟨g1, _, _, _⟩ := hS 0 (by omega)
      have h00 := g1 0 (by omega)
      rw [show 0 * 8 + 0 = 0 from rfl, Addr.add_zero'] at h00
      have hp := plain_of_cell h00
      have hlt := block_lt_of_cell h00
      refine ⟨a.block, a.off, by rw [← hp], hlt, fun i hi => ?_, by simpa using h2, by simpa using h4⟩
      have := h1 i hi
      rw [hp, add_plain] at this
      simpa [Nat.add_assoc] using this
    · obtain ⟨k, hk, rfl⟩ := List.mem_map.1 hz
      exact (hS k (by simpa using hk)).2.2.1
end

end Go.Proofs.YtbkmfomdhjhkpaaGreat
