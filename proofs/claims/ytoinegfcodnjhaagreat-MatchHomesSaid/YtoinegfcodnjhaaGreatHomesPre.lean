/- Lists of records by the reference, and what the law on homes keeps. -/
import Derived.Test.YtoinegfcodnjhaaGreatAliveAll
import Derived.Test.YtoinegfcodnjhaaGreatPeople
import Derived.Test.YtoinegfcodnjhaaGreatSame
import Derived.Test.YtoinegfcodnjhaaGreatTwinC
import Derived.Test.YtoinegfcodnjhaaGreatClass
import Derived.BigRegion
import Derived.BigQuiet
import Derived.IntWalk
import Derived.Test.YtoinegfcodnjhaaGreatSameL
import Derived.Test.YtoinegfcodnjhaaGreatCmp
import Derived.Test.YtoinegfcodnjhaaGreatHomesW
import Derived.Test.YtoinegfcodnjhaaGreatPairsW
import Derived.Test.YtoinegfcodnjhaaGreatHomesG
import Derived.Test.YtoinegfcodnjhaaGreatOpen
import Derived.Test.YtoinegfcodnjhaaGreatRecs

namespace Go.Proofs.YtoinegfcodnjhaaGreat
open Go.RowKit Go.Maps

theorem RecAt.after {w0 : World} {B : Nat} {A D : Option Addr} {r : Rec} (h : RecAt w0 B A D r) (hB : B ≤ w0.heap.size) (x : After B w0) : RecAt x.val x.val.heap.size A D r :=
  (h.below x.property).more (Nat.le_trans hB x.property.size)

set_option maxRecDepth 100000 in
set_option maxHeartbeats 1000000 in
theorem sameRecords_any (l l' : List RD) (he : l'.map RD.r = l.map RD.r) (A A' : Option Addr) (c c' : Nat) (w : World) (h : Recs w w.heap.size A l) (h' : Recs w w.heap.size A' l') (hl : l.length ≤ maxLen) :
    Calls Tryz.prog 18 #[.slice A l.length c, .slice A' l.length c'] w fun e w' => e = .returned (.bool true) ∧ Below w.heap.size w w' := by
  unfold maxLen at hl
  have hlen : l'.length = l.length := by simpa using congrArg List.length he
  have Hlen := Lib.hid hlen
  clear hlen
  go_enter Tryz.func18, Tryz.ntmps18
  go_wp2_with fail
  go_loopw [5] (fun ii wr => ∃ i : Nat, i ≤ l.length ∧ ii = .int .i64 i ∧ Below w.heap.size w wr) (fun ii _ => l.length - (intOf ii).toNat)
  case atStart => exact ⟨0, Nat.zero_le _, rfl, Below.refl _ _⟩
  case round =>
    obtain ⟨i, hi, rfl, hbel⟩ := hrel
    by_cases hlt : i < l.length
    · have hil : (i : Int) < (l.length : Int) := by omega
      have hlt2 : i < l'.length := by rw [Hlen.out]; exact hlt
      have hxy : l'[i].r = l[i].r := by
        have h1 := congrArg (fun m => m[i]?) he
        simpa [hlt, hlt2] using h1
      obtain ⟨b, off, rfl, hb, C, hr, _⟩ := (h.later hbel).eight hlt
      obtain ⟨b2, off2, rfl, hb2, C2, hr2, _⟩ := (h'.later hbel).eight hlt2
      generalize l[i] = x at *
      generalize l'[i] = y at *
      obtain ⟨r2, A2, c2, D2, d2⟩ := y
      dsimp only at hxy
      subst hxy
      obtain ⟨a0, a1, a2, a3, a4, a5, a6, a7⟩ := C
      obtain ⟨e0, e1, e2, e3, e4, e5, e6, e7⟩ := C2
      dsimp only at hr2 e0 e1 e2 e3 e4 e5 e6 e7
      have HS := Lib.hid (fun z : After wr.heap.size wr => same_any x.A x.D A2 D2 x.c x.d c2 d2 x.r z.val (hr.after (Nat.le_refl _) z) (hr2.after (Nat.le_refl _) z))
      have p0 : ∀ z : After wr.heap.size wr, z.val.cell? ⟨b, off + i * 8, none⟩ = some (.int .i64 x.r.id) := After.cell a0 hb
      have p1 : ∀ z : After wr.heap.size wr, z.val.cell? ⟨b, off + i * 8 + 1, none⟩ = some (.slice x.A x.r.names.length x.c) := After.cell a1 hb
      have p2 : ∀ z : After wr.heap.size wr, z.val.cell? ⟨b, off + i * 8 + 2, none⟩ = some (.int .u8 x.r.suf) := After.cell a2 hb
      have p3 : ∀ z : After wr.heap.size wr, z.val.cell? ⟨b, off + i * 8 + 3, none⟩ = some (.int .i64 x.r.lo) := After.cell a3 hb
      have p4 : ∀ z : After wr.heap.size wr, z.val.cell? ⟨b, off + i * 8 + 4, none⟩ = some (.int .i64 x.r.hi) := After.cell a4 hb
      have p5 : ∀ z : After wr.heap.size wr, z.val.cell? ⟨b, off + i * 8 + 5, none⟩ = some (.string x.r.num) := After.cell a5 hb
      have p6 : ∀ z : After wr.heap.size wr, z.val.cell? ⟨b, off + i * 8 + 6, none⟩ = some (.bool x.r.twin) := After.cell a6 hb
      have p7 : ∀ z : After wr.heap.size wr, z.val.cell? ⟨b, off + i * 8 + 7, none⟩ = some (.slice x.D x.r.stays.length x.d) := After.cell a7 hb
      have q0 : ∀ z : After wr.heap.size wr, z.val.cell? ⟨b2, off2 + i * 8, none⟩ = some (.int .i64 x.r.id) := After.cell e0 hb2
      have q1 : ∀ z : After wr.heap.size wr, z.val.cell? ⟨b2, off2 + i * 8 + 1, none⟩ = some (.slice A2 x.r.names.length c2) := After.cell e1 hb2
      have q2 : ∀ z : After wr.heap.size wr, z.val.cell? ⟨b2, off2 + i * 8 + 2, none⟩ = some (.int .u8 x.r.suf) := After.cell e2 hb2
      have q3 : ∀ z : After wr.heap.size wr, z.val.cell? ⟨b2, off2 + i * 8 + 3, none⟩ = some (.int .i64 x.r.lo) := After.cell e3 hb2
      have q4 : ∀ z : After wr.heap.size wr, z.val.cell? ⟨b2, off2 + i * 8 + 4, none⟩ = some (.int .i64 x.r.hi) := After.cell e4 hb2
      have q5 : ∀ z : After wr.heap.size wr, z.val.cell? ⟨b2, off2 + i * 8 + 5, none⟩ = some (.string x.r.num) := After.cell e5 hb2
      have q6 : ∀ z : After wr.heap.size wr, z.val.cell? ⟨b2, off2 + i * 8 + 6, none⟩ = some (.bool x.r.twin) := After.cell e6 hb2
      have q7 : ∀ z : After wr.heap.size wr, z.val.cell? ⟨b2, off2 + i * 8 + 7, none⟩ = some (.slice D2 x.r.stays.length d2) := After.cell e7 hb2
      clear a0 a1 a2 a3 a4 a5 a6 a7 e0 e1 e2 e3 e4 e5 e6 e7
      go_wp2_with fail
      refine wp_region_class_lit (C := fun w' => ∃ x : After wr.heap.size wr, w' = x.val) (by kernel_rfl) (by kernel_rfl) ⟨⟨_, (Below.refl _ _).drew⟩, rfl⟩ ?_
      repeat (go_big_quiet_step ((go_at_call 44; exact after_of (Nat.le_refl _) _ (HS.out _))))
      refine wpQuiet_nil ?_
      intro _ hw'
      obtain ⟨⟨wz, hz⟩, hw''⟩ := hw'
      dsimp only at hw''
      subst hw''
      go_wp2_with fail
      go_roundw
      case rel => exact ⟨i + 1, by omega, by go_num, hbel.trans (hz.mono hbel.size)⟩
      case measure => simp [intOf]; omega
    · have hil : ¬ (i : Int) < (l.length : Int) := by omega
      go_wp2_with fail
      go_ret
      exact ⟨rfl, hbel⟩

theorem recInfo : (Tryz.prog.info? 47).map (fun i => (i.zero, i.size, i.bytes)) = some (some (.agg #[.int .i64 0, .slice none 0 0, .int .u8 0, .int .i64 0, .int .i64 0, .string ByteArray.empty, .bool false, .slice none 0 0]), 8, 104) := by kernel_rfl

theorem recCells_len : ∀ l : List RD, (l.flatMap recCells).length = l.length * 8
  | [] => rfl
  | x :: l => by rw [List.flatMap_cons, List.length_append, recCells_len l]; simp [recCells]; omega
theorem recCells_set (l : List RD) (k : Nat) (hk : k < l.length) (y : RD) : (((((((((l.flatMap recCells).set (k * 8) (.int .i64 y.r.id)).set (k * 8 + 1) (.slice y.A y.r.names.length y.c)).set (k * 8 + 2) (.int .u8 y.r.suf)).set (k * 8 + 3) (.int .i64 y.r.lo)).set (k * 8 + 4) (.int .i64 y.r.hi)).set (k * 8 + 5) (.string y.r.num)).set (k * 8 + 6) (.bool y.r.twin)).set (k * 8 + 7) (.slice y.D y.r.stays.length y.d)) = (l.set k y).flatMap recCells := by
  apply List.ext_getElem?
  intro j
  obtain ⟨q, i, hi, rfl⟩ : ∃ q i, i < 8 ∧ j = q * 8 + i := ⟨j / 8, j % 8, by omega, by omega⟩
  by_cases hq : q < l.length
  · rw [recCells_get (l.set k y) q (by simpa using hq) i hi]
    by_cases hqk : k = q
    · subst hqk
      have h8 : k * 8 + 7 < (l.flatMap recCells).length := by rw [recCells_len]; omega
      have hy : (l.set k y)[k]'(by simpa using hq) = y := by simp
      rw [hy]
      rcases (by omega : i = 0 ∨ i = 1 ∨ i = 2 ∨ i = 3 ∨ i = 4 ∨ i = 5 ∨ i = 6 ∨ i = 7) with rfl | rfl | rfl | rfl | rfl | rfl | rfl | rfl
      all_goals (generalize l.flatMap recCells = F at h8 ⊢; simp [List.getElem?_set, recCells]; omega)
    · have hy : (l.set k y)[q]'(by simpa using hq) = l[q] := by simp [hqk]
      rw [hy, ← recCells_get l q hq i hi]
      simp only [List.getElem?_set]
      repeat rw [if_neg (by omega)]
  · rw [List.getElem?_eq_none (by simp only [List.length_set]; rw [recCells_len]; omega), List.getElem?_eq_none (by rw [recCells_len]; simp; omega)]


/-- A record whose slices lie elsewhere than in block g. -/
structure RecNot (W : World) (g : Nat) (x : RD) : Prop where
  strs : ∀ k, (h : k < x.r.names.length) → ∃ b off, x.A = some ⟨b, off, none⟩ ∧ b < W.heap.size ∧ b ≠ g ∧ W.cell? ⟨b, off + k, none⟩ = some (.string x.r.names[k]) ∧ x.r.names[k].size ≤ maxLen
  stays : ∀ k, (h : k < x.r.stays.length) → ∃ b off, x.D = some ⟨b, off, none⟩ ∧ b < W.heap.size ∧ b ≠ g ∧ W.cell? ⟨b, off + k * 3, none⟩ = some (.int .i64 x.r.stays[k].p) ∧ W.cell? ⟨b, off + k * 3 + 1, none⟩ = some (.int .i64 x.r.stays[k].f) ∧ W.cell? ⟨b, off + k * 3 + 2, none⟩ = some (.int .i64 x.r.stays[k].t)
  names_le : x.r.names.length ≤ maxLen
  stays_le : x.r.stays.length ≤ maxLen
  num_le : x.r.num.size ≤ maxLen
  cap : x.r.names.length ≤ x.c
theorem RecNot.at_ {W : World} {g : Nat} {x : RD} (h : RecNot W g x) : RecAt W W.heap.size x.A x.D x.r :=
  ⟨fun k hk => by obtain ⟨b, off, e, h1, _, h2, h3⟩ := h.strs k hk; exact ⟨b, off, e, h1, h2, h3⟩, fun k hk => by obtain ⟨b, off, e, h1, _, h2, h3, h4⟩ := h.stays k hk; exact ⟨b, off, e, h1, h2, h3, h4⟩, h.names_le, h.stays_le, h.num_le⟩
theorem RecNot.move {W W' : World} {g : Nat} {x : RD} (h : RecNot W g x) (hz : W.heap.size ≤ W'.heap.size) (hk : ∀ b o, b < W.heap.size → b ≠ g → W'.cell? ⟨b, o, none⟩ = W.cell? ⟨b, o, none⟩) : RecNot W' g x :=
  ⟨fun k hl => by obtain ⟨b, off, e, h1, h0, h2, h3⟩ := h.strs k hl; exact ⟨b, off, e, by omega, h0, (hk _ _ h1 h0).trans h2, h3⟩, fun k hl => by
    obtain ⟨b, off, e, h1, h0, h2, h3, h4⟩ := h.stays k hl
    exact ⟨b, off, e, by omega, h0, (hk _ _ h1 h0).trans h2, (hk _ _ h1 h0).trans h3, (hk _ _ h1 h0).trans h4⟩, h.names_le, h.stays_le, h.num_le, h.cap⟩
theorem RecNot.set {W : World} {g : Nat} {x : RD} (h : RecNot W g x) (j : Nat) (v : Value) : RecNot (W.setCell ⟨g, j, none⟩ v) g x :=
  h.move (by simp) fun b o _ hb => World.cell?_of_block (heap_setCell_other W ⟨g, j, none⟩ b v hb)
theorem RecNot.below {W W' : World} {g : Nat} {x : RD} (h : RecNot W g x) (hb : Below W.heap.size W W') : RecNot W' g x := h.move hb.size fun b o h1 _ => hb.cell (p := ⟨b, o, none⟩) h1
theorem RecNot.of_at {w W : World} {g : Nat} {x : RD} (h : RecAt w w.heap.size x.A x.D x.r) (hc : x.r.names.length ≤ x.c) (hg : w.heap.size ≤ g) (hb : Below w.heap.size w W) : RecNot W g x :=
  ⟨fun k hk => by obtain ⟨b, off, e, h1, h2, h3⟩ := h.strs k hk; exact ⟨b, off, e, Nat.lt_of_lt_of_le h1 hb.size, by omega, (hb.cell (p := ⟨b, _, none⟩) h1).trans h2, h3⟩, fun k hk => by
    obtain ⟨b, off, e, h1, h2, h3, h4⟩ := h.stays k hk
    exact ⟨b, off, e, Nat.lt_of_lt_of_le h1 hb.size, by omega, (hb.cell (p := ⟨b, _, none⟩) h1).trans h2, (hb.cell (p := ⟨b, _, none⟩) h1).trans h3, (hb.cell (p := ⟨b, _, none⟩) h1).trans h4⟩, h.names_le, h.stays_le, h.num_le, hc⟩
theorem RecNot.of_in {W : World} {g lo : Nat} {x : RD} (h : RecIn W lo W.heap.size x.A x.D x.r) (hc : x.r.names.length ≤ x.c) (hg : g < lo) : RecNot W g x :=
  ⟨fun k hk => by obtain ⟨b, off, e, h0, h1, h2, h3⟩ := h.strs k hk; exact ⟨b, off, e, h1, by omega, h2, h3⟩, fun k hk => by
    obtain ⟨b, off, e, h0, h1, h2, h3, h4⟩ := h.stays k hk
    exact ⟨b, off, e, h1, by omega, h2, h3, h4⟩, h.names_le, h.stays_le, h.num_le, hc⟩

theorem Recs.none_ {w : World} {B : Nat} {l : List RD} (h : Recs w B none l) : l.length = 0 := by
  rcases Nat.eq_zero_or_pos l.length with e | e
  · exact e
  · obtain ⟨_, _, he, _⟩ := h 0 e; cases he
theorem Recs.news {w : World} {B : Nat} {A : Option Addr} {l : List RD} (h : Recs w B A l) : ∀ ad, A = some ad → ∀ j u, (l.flatMap recCells)[j]? = some u → w.cell? (ad.add j) = some u := fun ad e j u hj => by
  obtain ⟨q, i, hi, rfl⟩ : ∃ q i, i < 8 ∧ j = q * 8 + i := ⟨j / 8, j % 8, by omega, by omega⟩
  have hq : q < l.length := by
    have := (List.getElem?_eq_some_iff.1 hj).1
    rw [recCells_len] at this; omega
  obtain ⟨b, off, he, _, hc, _⟩ := h q hq
  rw [e] at he; cases he
  rw [WideShapes.add_plain, ← Nat.add_assoc, hc i hi]
  rw [recCells_get l q hq i hi] at hj
  rw [← hj]; simp [recCells]
theorem recCells_one (l : List RD) : ∀ u ∈ l.flatMap recCells, u.oneCell' = true := fun u hu => by
  simp only [List.mem_flatMap, recCells] at hu
  obtain ⟨x, _, hu⟩ := hu
  simp only [List.mem_cons, List.not_mem_nil, or_false] at hu
  rcases hu with rfl | rfl | rfl | rfl | rfl | rfl | rfl | rfl <;> rfl
theorem recs_own {W : World} {base : Nat} {A : Option Addr} {c : Nat} {l : List RD} (h : W.ownsRow base 47 8 (.slice A l.length c) l.length (l.flatMap recCells)) (hr : ∀ x ∈ l, RecAt W W.heap.size x.A x.D x.r ∧ x.r.names.length ≤ x.c) : Recs W W.heap.size A l := fun k hk => by
  obtain ⟨g, cap, hv, hb, hlt⟩ := h.form (by omega)
  simp only [Value.slice.injEq, true_and] at hv
  obtain ⟨rfl, rfl⟩ := hv
  refine ⟨g, 0, rfl, hlt, fun i hi => ?_, hr _ (List.getElem_mem hk)⟩
  rw [Nat.zero_add, h.cellAt (k * 8 + i) (by omega), recCells_get l k hk i hi]; simp [recCells]

/-- What holds while a list is taken over into new memory, the first i of it done. -/
def TW (l : List RD) (w W : World) (A1 : Option Addr) (c1 : Nat) : Prop := ∃ ml : List RD, ml.map RD.r = l.map RD.r ∧ W.ownsRow w.heap.size 47 8 (.slice A1 l.length c1) l.length (ml.flatMap recCells) ∧ (∀ g, A1 = some ⟨g, 0, none⟩ → ∀ x ∈ ml, RecNot W g x) ∧ Below w.heap.size w W

theorem tw_next {l ml : List RD} {w wr w2 : World} {g c1 i : Nat} {x : RD} {A2 D2 : Option Addr} {c2 d2 : Nat} (HML : ∀ y : RD, y.r = x.r → (ml.set i y).map RD.r = l.map RD.r)
    (HSet : ∀ y : RD, (((((((((ml.flatMap recCells).set (i * 8) (.int .i64 y.r.id)).set (i * 8 + 1) (.slice y.A y.r.names.length y.c)).set (i * 8 + 2) (.int .u8 y.r.suf)).set (i * 8 + 3) (.int .i64 y.r.lo)).set (i * 8 + 4) (.int .i64 y.r.hi)).set (i * 8 + 5) (.string y.r.num)).set (i * 8 + 6) (.bool y.r.twin)).set (i * 8 + 7) (.slice y.D y.r.stays.length y.d)) = (ml.set i y).flatMap recCells) (HR : ∀ z ∈ ml, RecNot wr g z) (hx : RecNot wr g x)
    (hown : wr.ownsRow w.heap.size 47 8 (.slice (some ⟨g, 0, none⟩) l.length c1) l.length (ml.flatMap recCells)) (hbel : Below w.heap.size w wr)
    (oN : w2.ownsRow wr.heap.size 9 1 (.slice A2 x.r.names.length c2) x.r.names.length (x.r.names.map Value.string)) (oS : w2.ownsRow wr.heap.size 75 3 (.slice D2 x.r.stays.length d2) x.r.stays.length (stayCells x.r.stays)) (hb2 : Below wr.heap.size wr w2) (hc2 : x.r.names.length ≤ c2) :
    TW l w ((((((((w2.setCell ⟨g, i * 8, none⟩ (.int .i64 x.r.id)).setCell ⟨g, i * 8 + 1, none⟩ (.slice A2 x.r.names.length c2)).setCell ⟨g, i * 8 + 2, none⟩ (.int .u8 x.r.suf)).setCell ⟨g, i * 8 + 3, none⟩ (.int .i64 x.r.lo)).setCell ⟨g, i * 8 + 4, none⟩ (.int .i64 x.r.hi)).setCell ⟨g, i * 8 + 5, none⟩ (.string x.r.num)).setCell ⟨g, i * 8 + 6, none⟩ (.bool x.r.twin)).setCell ⟨g, i * 8 + 7, none⟩ (.slice D2 x.r.stays.length d2)) (some ⟨g, 0, none⟩) c1 := by
  have own2 := own_below hown hb2
  have hglt : g < wr.heap.size := (hown.lt g rfl).2
  have hgb : w.heap.size ≤ g := (hown.lt g rfl).1
  have hy : RecNot w2 g ⟨x.r, A2, c2, D2, d2⟩ := RecNot.of_in (lo := wr.heap.size) ⟨strsIn_of_own (Nat.le_refl _) oN (fun s hs => by
    obtain ⟨k, hk, rfl⟩ := List.getElem_of_mem hs
    obtain ⟨_, _, _, _, _, _, g⟩ := hx.strs k hk
    exact g), staysIn_of_own (Nat.le_refl _) oS, hx.names_le, hx.stays_le, hx.num_le⟩ hc2 hglt
  refine ⟨ml.set i ⟨x.r, A2, c2, D2, d2⟩, HML ⟨x.r, A2, c2, D2, d2⟩ rfl, ?_, fun g' hg' z hz => ?_, ?_⟩
  · have := ((((((((own2.stored (i * 8) (.int .i64 x.r.id)).1.stored (i * 8 + 1) (.slice A2 x.r.names.length c2)).1.stored (i * 8 + 2) (.int .u8 x.r.suf)).1.stored (i * 8 + 3) (.int .i64 x.r.lo)).1.stored (i * 8 + 4) (.int .i64 x.r.hi)).1.stored (i * 8 + 5) (.string x.r.num)).1.stored (i * 8 + 6) (.bool x.r.twin)).1.stored (i * 8 + 7) (.slice D2 x.r.stays.length d2)).1
    rw [← HSet ⟨x.r, A2, c2, D2, d2⟩]
    exact this
  · cases hg'
    rcases List.mem_or_eq_of_mem_set hz with h1 | h1
    · have hx := (HR z h1).below hb2
      exact ((((((((hx.set (i * 8) (.int .i64 x.r.id)).set (i * 8 + 1) (.slice A2 x.r.names.length c2)).set (i * 8 + 2) (.int .u8 x.r.suf)).set (i * 8 + 3) (.int .i64 x.r.lo)).set (i * 8 + 4) (.int .i64 x.r.hi)).set (i * 8 + 5) (.string x.r.num)).set (i * 8 + 6) (.bool x.r.twin)).set (i * 8 + 7) (.slice D2 x.r.stays.length d2))
    · subst h1
      have hx := hy
      exact ((((((((hx.set (i * 8) (.int .i64 x.r.id)).set (i * 8 + 1) (.slice A2 x.r.names.length c2)).set (i * 8 + 2) (.int .u8 x.r.suf)).set (i * 8 + 3) (.int .i64 x.r.lo)).set (i * 8 + 4) (.int .i64 x.r.hi)).set (i * 8 + 5) (.string x.r.num)).set (i * 8 + 6) (.bool x.r.twin)).set (i * 8 + 7) (.slice D2 x.r.stays.length d2))
  · have e : Below w.heap.size w w2 := hbel.trans (hb2.mono hbel.size)
    exact (((((((e.setCell (by show w.heap.size ≤ g; omega) _).setCell (by show w.heap.size ≤ g; omega) _).setCell (by show w.heap.size ≤ g; omega) _).setCell (by show w.heap.size ≤ g; omega) _).setCell (by show w.heap.size ≤ g; omega) _).setCell (by show w.heap.size ≤ g; omega) _).setCell (by show w.heap.size ≤ g; omega) _).setCell (by show w.heap.size ≤ g; omega) _

/-- A list in new memory, which reads as the other one. -/
def TwinPost (w : World) (l : List RD) (e : Ending) (w' : World) : Prop := ∃ A' c' l', e = .returned (.slice A' l.length c') ∧ Hid (l'.map RD.r = l.map RD.r ∧ Recs w' w'.heap.size A' l') ∧ Below w.heap.size w w'

set_option maxRecDepth 100000 in
set_option maxHeartbeats 2000000 in
theorem twinList_any (l : List RD) (A : Option Addr) (c : Nat) (w : World) (h : Recs w w.heap.size A l) (hl : l.length ≤ 1000) (hn : ∀ x ∈ l, x.r.names.length ≤ 1000 ∧ x.r.stays.length ≤ 1000) :
    Calls Tryz.prog 11 #[.slice A l.length c] w (TwinPost w l) := by
  obtain ⟨i0, hi, hz0, hz1, hz2⟩ := info_parts recInfo
  have hown0 : (w.alloc (.cells #[] 47)).ownsRow w.heap.size 47 8 (.slice (some ⟨w.heap.size, 0, none⟩) 0 0) 0 [] := by
    simpa using World.ownsRow_made (base := w.heap.size) (e := 47) (size := 8) w #[] 0 (Nat.le_refl _) (by simp [maxLen]) (by simp)
  have h0 := h.later ((Below.refl _ _).alloc (Nat.le_refl _) (.cells #[] 47))
  go_enter Tryz.func11, Tryz.ntmps11
  go_wp2_with (at_builtin; refine wpList_append_src _ rfl (.tmp 5) (.tmp 6) 24 rfl w.heap.size 47 i0 _ 8 104 Tryz.underlying24 hi hz0 hz1 hz2 rfl (by decide) _ 0 [] rfl ?a1 A l.length c (l.flatMap recCells) rfl ?a2 ?a3 ?a4 ?a5 ?a6 ?a7 ?a8 ?_)
  case a1 => exact hown0
  case a2 => exact recCells_len l
  case a3 => rintro rfl; exact h.none_
  case a4 => exact h0.news
  case a5 => exact recCells_one l
  case a6 => unfold maxLen; omega
  case a7 => omega
  case a8 => simp
  intro v1 w1 hown1 hg1 _
  obtain ⟨A1, c1, rfl⟩ := own_slice hown1
  have hb1 : Below w.heap.size w w1 := ((Below.refl _ _).alloc (Nat.le_refl _) _).grown hg1 (by simp) (by intro k hk; simp [Value.ownBlock] at hk; omega)
  have HW : Hid (TW l w w1 A1 c1) := Lib.hid ⟨l, rfl, hown1, fun g hg x hx => by
    obtain ⟨k, hk, rfl⟩ := List.getElem_of_mem hx
    obtain ⟨_, _, _, _, _, h3, h4⟩ := h k hk
    exact RecNot.of_at h3 h4 ((hown1.lt g (by rw [hg]; rfl)).1) hb1, hb1⟩
  clear hown1 hg1 hown0 h0 hb1
  go_wp2_with fail
  go_loopw [4] (fun ii wr => ∃ i : Nat, i ≤ l.length ∧ ii = .int .i64 i ∧ Hid (TW l w wr A1 c1)) (fun ii _ => l.length - (intOf ii).toNat)
  case atStart => exact ⟨0, Nat.zero_le _, rfl, HW⟩
  case round =>
    obtain ⟨i, hi, rfl, hT⟩ := hrel
    by_cases hlt : i < l.length
    · have hil : (i : Int) < (l.length : Int) := by omega
      obtain ⟨ml, hm, hown, hR, hbel⟩ := hT.out
      have hml : ml.length = l.length := by simpa using congrArg List.length hm
      have hltm : i < ml.length := by omega
      have hlen8 := recCells_len ml
      obtain ⟨g, cap, hv, hgb, hglt⟩ := hown.form (by omega)
      simp only [Value.slice.injEq, true_and] at hv
      obtain ⟨rfl, rfl⟩ := hv
      have hRx := hR g rfl ml[i] (List.getElem_mem hltm)
      have hnx : ml[i].r.names.length ≤ 1000 ∧ ml[i].r.stays.length ≤ 1000 := by
        have h1 := congrArg (fun q => q[i]?) hm
        have h2 : ml[i].r = l[i].r := by simpa [hlt, hltm] using h1
        rw [h2]; exact hn _ (List.getElem_mem hlt)
      have HML : Hid (∀ y : RD, y.r = ml[i].r → (ml.set i y).map RD.r = l.map RD.r) := Lib.hid (fun y hy => by
        rw [List.map_set, hy, ← hm]
        apply List.ext_getElem
        · simp
        · intro q h1 h2
          rw [List.getElem_set]
          split
          · rename_i e; subst e; simp
          · rfl)
      have HSet := Lib.hid (recCells_set ml i hltm)
      have HR := Lib.hid (hR g rfl)
      have hget := recCells_get ml i hltm
      have hxe : (recCells ml[i]) = recCells ml[i] := rfl
      clear hxe
      have a0 : wr.cell? ⟨g, i * 8, none⟩ = some (.int .i64 ml[i].r.id) := (hown.cellAt (i * 8) (by omega)).trans (hget 0 (by omega))
      have a1 : wr.cell? ⟨g, i * 8 + 1, none⟩ = some (.slice ml[i].A ml[i].r.names.length ml[i].c) := (hown.cellAt (i * 8 + 1) (by omega)).trans (hget 1 (by omega))
      have a2 : wr.cell? ⟨g, i * 8 + 2, none⟩ = some (.int .u8 ml[i].r.suf) := (hown.cellAt (i * 8 + 2) (by omega)).trans (hget 2 (by omega))
      have a3 : wr.cell? ⟨g, i * 8 + 3, none⟩ = some (.int .i64 ml[i].r.lo) := (hown.cellAt (i * 8 + 3) (by omega)).trans (hget 3 (by omega))
      have a4 : wr.cell? ⟨g, i * 8 + 4, none⟩ = some (.int .i64 ml[i].r.hi) := (hown.cellAt (i * 8 + 4) (by omega)).trans (hget 4 (by omega))
      have a5 : wr.cell? ⟨g, i * 8 + 5, none⟩ = some (.string ml[i].r.num) := (hown.cellAt (i * 8 + 5) (by omega)).trans (hget 5 (by omega))
      have a6 : wr.cell? ⟨g, i * 8 + 6, none⟩ = some (.bool ml[i].r.twin) := (hown.cellAt (i * 8 + 6) (by omega)).trans (hget 6 (by omega))
      have a7 : wr.cell? ⟨g, i * 8 + 7, none⟩ = some (.slice ml[i].D ml[i].r.stays.length ml[i].d) := (hown.cellAt (i * 8 + 7) (by omega)).trans (hget 7 (by omega))
      have HT := Lib.hid (twin_own ml[i].A ml[i].D ml[i].c ml[i].d ml[i].r wr hRx.at_ hnx.1 hnx.2)
      have Hown := Lib.hid hown
      have Hget := Lib.hid hget
      have Hl8 := Lib.hid (And.intro hml hlen8)
      have HX := Lib.hid hRx
      clear hT hm hown hR hRx hnx hlen8 hget hml
      generalize ml[i] = x at *
      go_wp2_with (go_at_call 24; (with_reducible refine (HT.out).mono ?_); rintro e w2 ⟨A2, c2, D2, d2, rfl, oN, oS, hb2, hc2⟩; have own2 := own_below Hown.out hb2; have d0 : w2.cell? ⟨g, i * 8, none⟩ = some (.int .i64 x.r.id) := (own2.cellAt (i * 8) (by omega)).trans (Hget.out 0 (by omega)); have z0 := own2.frozenAt (i * 8); have d1 : w2.cell? ⟨g, i * 8 + 1, none⟩ = some (.slice x.A x.r.names.length x.c) := (own2.cellAt (i * 8 + 1) (by omega)).trans (Hget.out 1 (by omega)); have z1 := own2.frozenAt (i * 8 + 1); have d2 : w2.cell? ⟨g, i * 8 + 2, none⟩ = some (.int .u8 x.r.suf) := (own2.cellAt (i * 8 + 2) (by omega)).trans (Hget.out 2 (by omega)); have z2 := own2.frozenAt (i * 8 + 2); have d3 : w2.cell? ⟨g, i * 8 + 3, none⟩ = some (.int .i64 x.r.lo) := (own2.cellAt (i * 8 + 3) (by omega)).trans (Hget.out 3 (by omega)); have z3 := own2.frozenAt (i * 8 + 3); have d4 : w2.cell? ⟨g, i * 8 + 4, none⟩ = some (.int .i64 x.r.hi) := (own2.cellAt (i * 8 + 4) (by omega)).trans (Hget.out 4 (by omega)); have z4 := own2.frozenAt (i * 8 + 4); have d5 : w2.cell? ⟨g, i * 8 + 5, none⟩ = some (.string x.r.num) := (own2.cellAt (i * 8 + 5) (by omega)).trans (Hget.out 5 (by omega)); have z5 := own2.frozenAt (i * 8 + 5); have d6 : w2.cell? ⟨g, i * 8 + 6, none⟩ = some (.bool x.r.twin) := (own2.cellAt (i * 8 + 6) (by omega)).trans (Hget.out 6 (by omega)); have z6 := own2.frozenAt (i * 8 + 6); have d7 : w2.cell? ⟨g, i * 8 + 7, none⟩ = some (.slice x.D x.r.stays.length x.d) := (own2.cellAt (i * 8 + 7) (by omega)).trans (Hget.out 7 (by omega)); have z7 := own2.frozenAt (i * 8 + 7); have HN := Lib.hid (tw_next (HML.out) (HSet.out) HR.out HX.out Hown.out hbel oN oS hb2 hc2); clear own2 oN oS)
      go_roundw
      case rel => exact ⟨i + 1, by omega, by go_num, HN⟩
      case measure => simp [intOf]; omega
    · have hil : ¬ (i : Int) < (l.length : Int) := by omega
      go_wp2_with fail
      go_ret
      obtain ⟨ml, hm, hown, hR, hbel⟩ := hT.out
      have hml : ml.length = l.length := by simpa using congrArg List.length hm
      refine ⟨A1, c1, ml, rfl, Lib.hid ⟨hm, ?_⟩, hbel⟩
      rw [← hml] at hown
      refine recs_own hown fun z hz => ?_
      obtain ⟨k, hk, rfl⟩ := List.getElem_of_mem hz
      obtain ⟨g, cap, hv, _, _⟩ := hown.form (by omega)
      simp only [Value.slice.injEq, true_and] at hv
      have hz2 := hR g hv.1 _ (List.getElem_mem hk)
      exact ⟨hz2.at_, hz2.cap⟩

end Go.Proofs.YtoinegfcodnjhaaGreat

namespace Go.Proofs.YtoinegfcodnjhaaGreat
open Go.RowKit

/-- All pairs up to i are in order, but for those whose later one is k. -/
def InsInv (f : Nat → Int) (i k : Nat) : Prop := ∀ a b, a < b → b ≤ i → b ≠ k → f a ≤ f b
def swp (f : Nat → Int) (k : Nat) (a : Nat) : Int := if a = k then f (k - 1) else if a = k - 1 then f k else f a
theorem ins_start {f : Nat → Int} {i : Nat} (h : ∀ a b, a < b → b < i → f a ≤ f b) : InsInv f i i := fun a b h1 h2 h3 => h a b h1 (by omega)
theorem ins_step {f : Nat → Int} {i k : Nat} (hk : 0 < k) (hlt : f k < f (k - 1)) (h : InsInv f i k) : InsInv (swp f k) i (k - 1) := fun a b h1 h2 h3 => by
  unfold swp
  by_cases hb : b = k
  · subst hb
    rw [if_pos rfl, if_neg (by omega)]
    by_cases ha : a = b - 1
    · rw [if_pos ha]; omega
    · rw [if_neg ha]; exact h a (b - 1) (by omega) (by omega) (by omega)
  · rw [if_neg hb, if_neg h3]
    by_cases ha : a = k
    · subst ha; rw [if_pos rfl]; exact h (a - 1) b (by omega) h2 hb
    · rw [if_neg ha]
      by_cases ha2 : a = k - 1
      · rw [if_pos ha2]; exact h k b (by omega) h2 hb
      · rw [if_neg ha2]; exact h a b h1 h2 hb
theorem ins_end {f : Nat → Int} {i k : Nat} (h : InsInv f i k) (he : k = 0 ∨ f (k - 1) ≤ f k) : ∀ a b, a < b → b < i + 1 → f a ≤ f b := fun a b h1 h2 => by
  by_cases hb : b = k
  · subst hb
    rcases he with he | he
    · omega
    · by_cases ha : a = b - 1
      · rw [ha]; exact he
      · exact Int.le_trans (h a (b - 1) (by omega) (by omega) (by omega)) he
  · exact h a b h1 (by omega) hb

section
variable {α : Type}
/-- Two neighbours exchanged. -/
def swapL (l : List α) (k : Nat) (x y : α) : List α := (l.set k x).set (k - 1) y
theorem swapL_len (l : List α) (k : Nat) (x y : α) : (swapL l k x y).length = l.length := by simp [swapL]
theorem swapL_get (l : List α) (k : Nat) (hk : 0 < k) (hl : k < l.length) (a : Nat) (ha : a < l.length) : (swapL l k (l[k - 1]'(by omega)) l[k])[a]'(by rw [swapL_len]; exact ha) = if a = k then l[k - 1]'(by omega) else if a = k - 1 then l[k] else l[a] := by
  unfold swapL
  rw [List.getElem_set]
  by_cases h1 : k - 1 = a
  · rw [if_pos h1, if_neg (by omega), if_pos h1.symm]
  · rw [if_neg h1, List.getElem_set]
    by_cases h2 : k = a
    · rw [if_pos h2, if_pos h2.symm]
    · rw [if_neg h2, if_neg (fun e => h2 e.symm), if_neg (fun e => h1 e.symm)]
theorem swapL_perm (l : List α) (k : Nat) (hk : 0 < k) (hl : k < l.length) : (swapL l k (l[k - 1]'(by omega)) l[k]).Perm l := by
  obtain ⟨m, rfl⟩ : ∃ m, k = m + 1 := ⟨k - 1, by omega⟩
  have e : swapL l (m + 1) (l[m]'(by omega)) l[m + 1] = l.take m ++ l[m + 1] :: (l[m]'(by omega)) :: l.drop (m + 2) := by
    apply List.ext_getElem
    · rw [swapL_len]; simp; omega
    · intro a h1 h2
      have h3 : a < l.length := by rwa [swapL_len] at h1
      have hg := swapL_get l (m + 1) (by omega) hl a h3
      simp only [Nat.add_sub_cancel] at hg
      rw [hg]
      by_cases hm : a < m
      · rw [if_neg (by omega), if_neg (by omega), List.getElem_append_left (by simp; omega), List.getElem_take]
      · rw [List.getElem_append_right (by simp; omega)]
        simp only [List.length_take, Nat.min_eq_left (show m ≤ l.length by omega)]
        by_cases h4 : a = m
        · subst h4; simp
        · by_cases h5 : a = m + 1
          · subst h5; simp
          · rw [if_neg h5, if_neg h4]
            obtain ⟨q, rfl⟩ : ∃ q, a = m + 2 + q := ⟨a - (m + 2), by omega⟩
            simp only [show m + 2 + q - m = q + 1 + 1 by omega, List.getElem_cons_succ, List.getElem_drop]
  have e2 : l = l.take m ++ (l[m]'(by omega)) :: l[m + 1] :: l.drop (m + 2) := by
    rw [← List.drop_eq_getElem_cons, ← List.drop_eq_getElem_cons, List.take_append_drop]
  show (swapL l (m + 1) (l[m]'(by omega)) l[m + 1]).Perm l
  rw [e]
  conv => rhs; rw [e2]
  exact List.Perm.append_left _ (List.Perm.swap _ _ _)
end

end Go.Proofs.YtoinegfcodnjhaaGreat

namespace Go.Proofs.YtoinegfcodnjhaaGreat
open Go.RowKit Go.Maps

def idAt (l : List RD) (a : Nat) : Int := (l.getD a default).r.id
/-- A list in new memory, put in order. -/
def OrdPost (w : World) (l : List RD) (e : Ending) (w' : World) : Prop := ∃ A' c' ol, e = .returned (.slice A' l.length c') ∧ Hid (ol.Perm l ∧ ol.Pairwise (fun x y => x.r.id ≤ y.r.id) ∧ Recs w' w'.heap.size A' ol) ∧ Below w.heap.size w w'
structure OW (l : List RD) (w W : World) (A1 : Option Addr) (c1 : Nat) (ml : List RD) : Prop where
  perm : ml.Perm l
  own : W.ownsRow w.heap.size 47 8 (.slice A1 l.length c1) l.length (ml.flatMap recCells)
  bel : Below w.heap.size w W

theorem idAt_get (l : List RD) (a : Nat) (h : a < l.length) : idAt l a = l[a].r.id := by
  unfold idAt; rw [List.getD_eq_getElem?_getD, List.getElem?_eq_getElem h]; rfl
theorem InsInv.congr {f f' : Nat → Int} {i k : Nat} (h : InsInv f i k) (e : ∀ a, a ≤ i → f a = f' a) : InsInv f' i k := fun a b h1 h2 h3 => by
  rw [← e a (by omega), ← e b h2]; exact h a b h1 h2 h3
theorem ord_next {l ml : List RD} {w V : World} {g c1 m i : Nat} {x0 x1 : RD} (hp : ml.Perm l) (ownV : V.ownsRow w.heap.size 47 8 (.slice (some ⟨g, 0, none⟩) l.length c1) l.length (ml.flatMap recCells)) (belV : Below w.heap.size w V)
    (hm : m + 1 < ml.length) (hi : i < ml.length) (_hmi : m + 1 ≤ i) (h0 : ml[m] = x0) (h1 : ml[m + 1] = x1) (hlt : x1.r.id < x0.r.id) (hI : InsInv (idAt ml) i (m + 1)) :
    ∃ ml', OW l w ((((((((((((((((V.setCell ⟨g, (m + 1) * 8, none⟩ (.int .i64 x0.r.id)).setCell ⟨g, (m + 1) * 8 + 1, none⟩ (.slice x0.A x0.r.names.length x0.c)).setCell ⟨g, (m + 1) * 8 + 2, none⟩ (.int .u8 x0.r.suf)).setCell ⟨g, (m + 1) * 8 + 3, none⟩ (.int .i64 x0.r.lo)).setCell ⟨g, (m + 1) * 8 + 4, none⟩ (.int .i64 x0.r.hi)).setCell ⟨g, (m + 1) * 8 + 5, none⟩ (.string x0.r.num)).setCell ⟨g, (m + 1) * 8 + 6, none⟩ (.bool x0.r.twin)).setCell ⟨g, (m + 1) * 8 + 7, none⟩ (.slice x0.D x0.r.stays.length x0.d)).setCell ⟨g, m * 8, none⟩ (.int .i64 x1.r.id)).setCell ⟨g, m * 8 + 1, none⟩ (.slice x1.A x1.r.names.length x1.c)).setCell ⟨g, m * 8 + 2, none⟩ (.int .u8 x1.r.suf)).setCell ⟨g, m * 8 + 3, none⟩ (.int .i64 x1.r.lo)).setCell ⟨g, m * 8 + 4, none⟩ (.int .i64 x1.r.hi)).setCell ⟨g, m * 8 + 5, none⟩ (.string x1.r.num)).setCell ⟨g, m * 8 + 6, none⟩ (.bool x1.r.twin)).setCell ⟨g, m * 8 + 7, none⟩ (.slice x1.D x1.r.stays.length x1.d)) (some ⟨g, 0, none⟩) c1 ml' ∧ InsInv (idAt ml') i m := by
  have hgb : w.heap.size ≤ g := (ownV.lt g rfl).1
  subst h0 h1
  refine ⟨swapL ml (m + 1) (ml[m]'(by omega)) ml[m + 1], ⟨(swapL_perm ml (m + 1) (by omega) hm).trans hp, ?_, ((((((((((((((((belV.setCell (by show w.heap.size ≤ g; omega) _).setCell (by show w.heap.size ≤ g; omega) _).setCell (by show w.heap.size ≤ g; omega) _).setCell (by show w.heap.size ≤ g; omega) _).setCell (by show w.heap.size ≤ g; omega) _).setCell (by show w.heap.size ≤ g; omega) _).setCell (by show w.heap.size ≤ g; omega) _).setCell (by show w.heap.size ≤ g; omega) _).setCell (by show w.heap.size ≤ g; omega) _).setCell (by show w.heap.size ≤ g; omega) _).setCell (by show w.heap.size ≤ g; omega) _).setCell (by show w.heap.size ≤ g; omega) _).setCell (by show w.heap.size ≤ g; omega) _).setCell (by show w.heap.size ≤ g; omega) _).setCell (by show w.heap.size ≤ g; omega) _).setCell (by show w.heap.size ≤ g; omega) _)⟩, ?_⟩
  · have o := ((((((((((((((((ownV.stored ((m + 1) * 8) (.int .i64 ml[m].r.id)).1.stored ((m + 1) * 8 + 1) (.slice ml[m].A ml[m].r.names.length ml[m].c)).1.stored ((m + 1) * 8 + 2) (.int .u8 ml[m].r.suf)).1.stored ((m + 1) * 8 + 3) (.int .i64 ml[m].r.lo)).1.stored ((m + 1) * 8 + 4) (.int .i64 ml[m].r.hi)).1.stored ((m + 1) * 8 + 5) (.string ml[m].r.num)).1.stored ((m + 1) * 8 + 6) (.bool ml[m].r.twin)).1.stored ((m + 1) * 8 + 7) (.slice ml[m].D ml[m].r.stays.length ml[m].d)).1.stored (m * 8) (.int .i64 ml[m + 1].r.id)).1.stored (m * 8 + 1) (.slice ml[m + 1].A ml[m + 1].r.names.length ml[m + 1].c)).1.stored (m * 8 + 2) (.int .u8 ml[m + 1].r.suf)).1.stored (m * 8 + 3) (.int .i64 ml[m + 1].r.lo)).1.stored (m * 8 + 4) (.int .i64 ml[m + 1].r.hi)).1.stored (m * 8 + 5) (.string ml[m + 1].r.num)).1.stored (m * 8 + 6) (.bool ml[m + 1].r.twin)).1.stored (m * 8 + 7) (.slice ml[m + 1].D ml[m + 1].r.stays.length ml[m + 1].d)).1
    have e1 := recCells_set ml (m + 1) hm (ml[m]'(by omega))
    have e2 := recCells_set (ml.set (m + 1) (ml[m]'(by omega))) m (by simp; omega) ml[m + 1]
    rw [e1] at o
    rw [e2] at o
    exact o
  · have h2 := ins_step (f := idAt ml) (i := i) (k := m + 1) (by omega) (by rw [Nat.add_sub_cancel, idAt_get ml m (by omega), idAt_get ml (m + 1) hm]; exact hlt) hI
    rw [Nat.add_sub_cancel] at h2
    refine h2.congr fun a ha => ?_
    have hg := swapL_get ml (m + 1) (by omega) hm a (by omega)
    simp only [Nat.add_sub_cancel] at hg
    unfold swp
    simp only [Nat.add_sub_cancel]
    rw [idAt_get (swapL ml (m + 1) (ml[m]'(by omega)) ml[m + 1]) a (by rw [swapL_len]; omega), hg, idAt_get ml m (by omega), idAt_get ml (m + 1) hm, idAt_get ml a (by omega)]
    split
    · rfl
    · split <;> rfl

theorem ow_drew {l : List RD} {w W : World} {A1 : Option Addr} {c1 : Nat} {Q : List RD → Prop} (h : ∃ ml, OW l w W A1 c1 ml ∧ Q ml) : ∃ ml, OW l w W.drew A1 c1 ml ∧ Q ml := by
  obtain ⟨ml, ⟨h1, h2, h3⟩, hq⟩ := h
  exact ⟨ml, ⟨h1, own_below h2 (Below.refl _ _).drew, h3.drew⟩, hq⟩

set_option maxRecDepth 100000 in
set_option maxHeartbeats 4000000 in
theorem ordered_any (l : List RD) (A : Option Addr) (c : Nat) (w : World) (h : Recs w w.heap.size A l) (hl : l.length ≤ 1000) :
    Calls Tryz.prog 33 #[.slice A l.length c] w (OrdPost w l) := by
  obtain ⟨i0, hi, hz0, hz1, hz2⟩ := info_parts recInfo
  have hown0 : (w.alloc (.cells #[] 47)).ownsRow w.heap.size 47 8 (.slice (some ⟨w.heap.size, 0, none⟩) 0 0) 0 [] := by
    simpa using World.ownsRow_made (base := w.heap.size) (e := 47) (size := 8) w #[] 0 (Nat.le_refl _) (by simp [maxLen]) (by simp)
  have h0 := h.later ((Below.refl _ _).alloc (Nat.le_refl _) (.cells #[] 47))
  go_enter Tryz.func33, Tryz.ntmps33
  go_wp2_with (at_builtin; refine wpList_append_src _ rfl (.tmp 6) (.tmp 7) 24 rfl w.heap.size 47 i0 _ 8 104 Tryz.underlying24 hi hz0 hz1 hz2 rfl (by decide) _ 0 [] rfl ?a1 A l.length c (l.flatMap recCells) rfl ?a2 ?a3 ?a4 ?a5 ?a6 ?a7 ?a8 ?_)
  case a1 => exact hown0
  case a2 => exact recCells_len l
  case a3 => rintro rfl; exact h.none_
  case a4 => exact h0.news
  case a5 => exact recCells_one l
  case a6 => unfold maxLen; omega
  case a7 => omega
  case a8 => simp
  intro v1 w1 hown1 hg1 _
  obtain ⟨A1, c1, rfl⟩ := own_slice hown1
  have hb1 : Below w.heap.size w w1 := ((Below.refl _ _).alloc (Nat.le_refl _) _).grown hg1 (by simp) (by intro k hk; simp [Value.ownBlock] at hk; omega)
  have HW : Hid (∃ ml, OW l w w1 A1 c1 ml ∧ ∀ a b, a < b → b < 1 → idAt ml a ≤ idAt ml b) := Lib.hid ⟨l, ⟨List.Perm.refl _, hown1, hb1⟩, fun a b h1 h2 => by omega⟩
  clear hown1 hg1 hown0 h0 hb1
  go_wp2_with fail
  go_loopw [4, 5] (fun ii kk wr => ∃ i : Nat, 1 ≤ i ∧ i ≤ 1001 ∧ ii = .int .i64 i ∧ Hid (∃ ml, OW l w wr A1 c1 ml ∧ ∀ a b, a < b → b < i → b < l.length → idAt ml a ≤ idAt ml b)) (fun ii _ _ => l.length + 1 - (intOf ii).toNat)
  case atStart => exact ⟨1, by omega, by omega, rfl, by obtain ⟨ml, h1, h2⟩ := HW.out; exact Lib.hid ⟨ml, h1, fun a b x y _ => h2 a b x y⟩⟩
  case round =>
    obtain ⟨i, hi1, hi2, rfl, hT⟩ := hrel
    by_cases hlt : i < l.length
    · have hil : (i : Int) < (l.length : Int) := by omega
      obtain ⟨wo, rfl⟩ : ∃ wo : World, wo = wr := ⟨_, rfl⟩
      go_wp2_with fail
      go_loopw [5] (fun kk wr => ∃ (k : Nat) (z : Int), k ≤ i ∧ z = k ∧ kk = .int .i64 z ∧ Hid (∃ ml, OW l w wr A1 c1 ml ∧ InsInv (idAt ml) i k)) (fun kk _ => (intOf kk).toNat)
      case atStart => exact ⟨i, i, Nat.le_refl _, rfl, rfl, by obtain ⟨ml, h1, h2⟩ := hT.out; exact Lib.hid ⟨ml, h1, ins_start fun a b x y => h2 a b x y (by omega)⟩⟩
      case round =>
        obtain ⟨k, z, hk, hzk, rfl, hT2⟩ := hrel
        clear hT HW
        rcases Nat.eq_zero_or_pos k with rfl | hkp
        · have HE : Hid (∃ ml, OW l w wr A1 c1 ml ∧ ∀ a b, a < b → b < i + 1 → b < l.length → idAt ml a ≤ idAt ml b) := by
            obtain ⟨ml, h1, h2⟩ := hT2.out
            exact Lib.hid ⟨ml, h1, fun a b x y _ => ins_end h2 (.inl rfl) a b x y⟩
          obtain rfl : z = 0 := by simpa using hzk
          have hd : decide ((0 : Int) < 0) = false := by decide
          clear hzk
          go_wp2_with fail
          go_quiet (fail)
          go_wp2_with fail
          go_roundw
          case rel =>
            obtain ⟨ml2, o1, o2⟩ := HE.out
            exact ⟨i + 1, by omega, by omega, by go_num, Lib.hid ⟨ml2, ⟨o1.perm, own_below o1.own (below_drewN (Below.refl _ _) _), below_drewN o1.bel _⟩, o2⟩⟩
          case measure => simp [intOf]; omega
        · obtain ⟨m, rfl⟩ : ∃ m, k = m + 1 := ⟨k - 1, by omega⟩
          obtain rfl : z = (m : Int) + 1 := by omega
          clear hzk
          obtain ⟨ml, hO, hI⟩ := hT2.out
          have hml : ml.length = l.length := hO.perm.length_eq
          have hlen8 := recCells_len ml
          have hown := hO.own
          obtain ⟨g, cap, hv, hgb, hglt⟩ := hown.form (by omega)
          simp only [Value.slice.injEq, true_and] at hv
          obtain ⟨rfl, rfl⟩ := hv
          have G1 := recCells_get ml (m + 1) (by omega)
          have G0 := recCells_get ml m (by omega)
          generalize hx1 : ml[m + 1] = x1 at G1
          generalize hx0 : ml[m] = x0 at G0
          have a0 : wr.cell? ⟨g, (m + 1) * 8, none⟩ = some (.int .i64 x1.r.id) := (hown.cellAt ((m + 1) * 8) (by omega)).trans ((G1) 0 (by omega))
          have fa0 := hown.frozenAt ((m + 1) * 8)
          have a1 : wr.cell? ⟨g, (m + 1) * 8 + 1, none⟩ = some (.slice x1.A x1.r.names.length x1.c) := (hown.cellAt ((m + 1) * 8 + 1) (by omega)).trans ((G1) 1 (by omega))
          have fa1 := hown.frozenAt ((m + 1) * 8 + 1)
          have a2 : wr.cell? ⟨g, (m + 1) * 8 + 2, none⟩ = some (.int .u8 x1.r.suf) := (hown.cellAt ((m + 1) * 8 + 2) (by omega)).trans ((G1) 2 (by omega))
          have fa2 := hown.frozenAt ((m + 1) * 8 + 2)
          have a3 : wr.cell? ⟨g, (m + 1) * 8 + 3, none⟩ = some (.int .i64 x1.r.lo) := (hown.cellAt ((m + 1) * 8 + 3) (by omega)).trans ((G1) 3 (by omega))
          have fa3 := hown.frozenAt ((m + 1) * 8 + 3)
          have a4 : wr.cell? ⟨g, (m + 1) * 8 + 4, none⟩ = some (.int .i64 x1.r.hi) := (hown.cellAt ((m + 1) * 8 + 4) (by omega)).trans ((G1) 4 (by omega))
          have fa4 := hown.frozenAt ((m + 1) * 8 + 4)
          have a5 : wr.cell? ⟨g, (m + 1) * 8 + 5, none⟩ = some (.string x1.r.num) := (hown.cellAt ((m + 1) * 8 + 5) (by omega)).trans ((G1) 5 (by omega))
          have fa5 := hown.frozenAt ((m + 1) * 8 + 5)
          have a6 : wr.cell? ⟨g, (m + 1) * 8 + 6, none⟩ = some (.bool x1.r.twin) := (hown.cellAt ((m + 1) * 8 + 6) (by omega)).trans ((G1) 6 (by omega))
          have fa6 := hown.frozenAt ((m + 1) * 8 + 6)
          have a7 : wr.cell? ⟨g, (m + 1) * 8 + 7, none⟩ = some (.slice x1.D x1.r.stays.length x1.d) := (hown.cellAt ((m + 1) * 8 + 7) (by omega)).trans ((G1) 7 (by omega))
          have fa7 := hown.frozenAt ((m + 1) * 8 + 7)
          have b0 : wr.cell? ⟨g, m * 8, none⟩ = some (.int .i64 x0.r.id) := (hown.cellAt (m * 8) (by omega)).trans ((G0) 0 (by omega))
          have fb0 := hown.frozenAt (m * 8)
          have b1 : wr.cell? ⟨g, m * 8 + 1, none⟩ = some (.slice x0.A x0.r.names.length x0.c) := (hown.cellAt (m * 8 + 1) (by omega)).trans ((G0) 1 (by omega))
          have fb1 := hown.frozenAt (m * 8 + 1)
          have b2 : wr.cell? ⟨g, m * 8 + 2, none⟩ = some (.int .u8 x0.r.suf) := (hown.cellAt (m * 8 + 2) (by omega)).trans ((G0) 2 (by omega))
          have fb2 := hown.frozenAt (m * 8 + 2)
          have b3 : wr.cell? ⟨g, m * 8 + 3, none⟩ = some (.int .i64 x0.r.lo) := (hown.cellAt (m * 8 + 3) (by omega)).trans ((G0) 3 (by omega))
          have fb3 := hown.frozenAt (m * 8 + 3)
          have b4 : wr.cell? ⟨g, m * 8 + 4, none⟩ = some (.int .i64 x0.r.hi) := (hown.cellAt (m * 8 + 4) (by omega)).trans ((G0) 4 (by omega))
          have fb4 := hown.frozenAt (m * 8 + 4)
          have b5 : wr.cell? ⟨g, m * 8 + 5, none⟩ = some (.string x0.r.num) := (hown.cellAt (m * 8 + 5) (by omega)).trans ((G0) 5 (by omega))
          have fb5 := hown.frozenAt (m * 8 + 5)
          have b6 : wr.cell? ⟨g, m * 8 + 6, none⟩ = some (.bool x0.r.twin) := (hown.cellAt (m * 8 + 6) (by omega)).trans ((G0) 6 (by omega))
          have fb6 := hown.frozenAt (m * 8 + 6)
          have b7 : wr.cell? ⟨g, m * 8 + 7, none⟩ = some (.slice x0.D x0.r.stays.length x0.d) := (hown.cellAt (m * 8 + 7) (by omega)).trans ((G0) 7 (by omega))
          have fb7 := hown.frozenAt (m * 8 + 7)
          have Hx1 := Lib.hid hx1
          have Hx0 := Lib.hid hx0
          have HO := Lib.hid hO
          have HG1 := Lib.hid G1
          have HG0 := Lib.hid G0
          have HI := Lib.hid hI
          have Hml := Lib.hid hml
          clear hx1 hx0 hO hI hlen8 hown G1 G0 hT2 fa0 fa1 fa2 fa3 fa4 fa5 fa6 fa7 fb0 fb1 fb2 fb3 fb4 fb5 fb6 fb7
          have hm1 : (m : Int) + 1 < (l.length : Int) := by omega
          have hm0 : (m : Int) < (l.length : Int) := by omega
          by_cases hq : x1.r.id < x0.r.id
          · have e1 : ((m : Int) + 1).toNat = m + 1 := by omega
            have e2 : IntKind.i64.wrap ((m : Int) + 1 - 1) = (m : Int) := by rw [show (m : Int) + 1 - 1 = m by omega]; exact IntWalk.i64_in _ (by omega)
            have e3 : ((m : Int) + 1 - 1) = (m : Int) := by omega
            have hg0 : decide ((0 : Int) < (m : Int) + 1) = true := decide_eq_true (by omega)
            have e4 : (0 : Int) < (m : Int) + 1 := by omega
            have e5 : (m : Int) + 1 < (l.length : Int) := by omega
            go_wp2_with fail
            go_quiet (fail)
            go_wp2_with fail
            have ownV := own_below HO.out.own (below_drewN (Below.refl wr.heap.size wr) nq)
            have belV : Below w.heap.size w (wr.drewN nq) := below_drewN HO.out.bel nq
            clear a0 a1 a2 a3 a4 a5 a6 a7 b0 b1 b2 b3 b4 b5 b6 b7
            generalize wr.drewN nq = V at *
            have a0 : V.cell? ⟨g, (m + 1) * 8, none⟩ = some (.int .i64 x1.r.id) := (ownV.cellAt ((m + 1) * 8) (by omega)).trans (HG1.out 0 (by omega))
            have fa0 := ownV.frozenAt ((m + 1) * 8)
            have a1 : V.cell? ⟨g, (m + 1) * 8 + 1, none⟩ = some (.slice x1.A x1.r.names.length x1.c) := (ownV.cellAt ((m + 1) * 8 + 1) (by omega)).trans (HG1.out 1 (by omega))
            have fa1 := ownV.frozenAt ((m + 1) * 8 + 1)
            have a2 : V.cell? ⟨g, (m + 1) * 8 + 2, none⟩ = some (.int .u8 x1.r.suf) := (ownV.cellAt ((m + 1) * 8 + 2) (by omega)).trans (HG1.out 2 (by omega))
            have fa2 := ownV.frozenAt ((m + 1) * 8 + 2)
            have a3 : V.cell? ⟨g, (m + 1) * 8 + 3, none⟩ = some (.int .i64 x1.r.lo) := (ownV.cellAt ((m + 1) * 8 + 3) (by omega)).trans (HG1.out 3 (by omega))
            have fa3 := ownV.frozenAt ((m + 1) * 8 + 3)
            have a4 : V.cell? ⟨g, (m + 1) * 8 + 4, none⟩ = some (.int .i64 x1.r.hi) := (ownV.cellAt ((m + 1) * 8 + 4) (by omega)).trans (HG1.out 4 (by omega))
            have fa4 := ownV.frozenAt ((m + 1) * 8 + 4)
            have a5 : V.cell? ⟨g, (m + 1) * 8 + 5, none⟩ = some (.string x1.r.num) := (ownV.cellAt ((m + 1) * 8 + 5) (by omega)).trans (HG1.out 5 (by omega))
            have fa5 := ownV.frozenAt ((m + 1) * 8 + 5)
            have a6 : V.cell? ⟨g, (m + 1) * 8 + 6, none⟩ = some (.bool x1.r.twin) := (ownV.cellAt ((m + 1) * 8 + 6) (by omega)).trans (HG1.out 6 (by omega))
            have fa6 := ownV.frozenAt ((m + 1) * 8 + 6)
            have a7 : V.cell? ⟨g, (m + 1) * 8 + 7, none⟩ = some (.slice x1.D x1.r.stays.length x1.d) := (ownV.cellAt ((m + 1) * 8 + 7) (by omega)).trans (HG1.out 7 (by omega))
            have fa7 := ownV.frozenAt ((m + 1) * 8 + 7)
            have b0 : V.cell? ⟨g, m * 8, none⟩ = some (.int .i64 x0.r.id) := (ownV.cellAt (m * 8) (by omega)).trans (HG0.out 0 (by omega))
            have fb0 := ownV.frozenAt (m * 8)
            have b1 : V.cell? ⟨g, m * 8 + 1, none⟩ = some (.slice x0.A x0.r.names.length x0.c) := (ownV.cellAt (m * 8 + 1) (by omega)).trans (HG0.out 1 (by omega))
            have fb1 := ownV.frozenAt (m * 8 + 1)
            have b2 : V.cell? ⟨g, m * 8 + 2, none⟩ = some (.int .u8 x0.r.suf) := (ownV.cellAt (m * 8 + 2) (by omega)).trans (HG0.out 2 (by omega))
            have fb2 := ownV.frozenAt (m * 8 + 2)
            have b3 : V.cell? ⟨g, m * 8 + 3, none⟩ = some (.int .i64 x0.r.lo) := (ownV.cellAt (m * 8 + 3) (by omega)).trans (HG0.out 3 (by omega))
            have fb3 := ownV.frozenAt (m * 8 + 3)
            have b4 : V.cell? ⟨g, m * 8 + 4, none⟩ = some (.int .i64 x0.r.hi) := (ownV.cellAt (m * 8 + 4) (by omega)).trans (HG0.out 4 (by omega))
            have fb4 := ownV.frozenAt (m * 8 + 4)
            have b5 : V.cell? ⟨g, m * 8 + 5, none⟩ = some (.string x0.r.num) := (ownV.cellAt (m * 8 + 5) (by omega)).trans (HG0.out 5 (by omega))
            have fb5 := ownV.frozenAt (m * 8 + 5)
            have b6 : V.cell? ⟨g, m * 8 + 6, none⟩ = some (.bool x0.r.twin) := (ownV.cellAt (m * 8 + 6) (by omega)).trans (HG0.out 6 (by omega))
            have fb6 := ownV.frozenAt (m * 8 + 6)
            have b7 : V.cell? ⟨g, m * 8 + 7, none⟩ = some (.slice x0.D x0.r.stays.length x0.d) := (ownV.cellAt (m * 8 + 7) (by omega)).trans (HG0.out 7 (by omega))
            have fb7 := ownV.frozenAt (m * 8 + 7)
            have OwnV := Lib.hid ownV
            have hne : (m + 1) * 8 ≠ m * 8 := by omega
            clear ownV
            go_region
            go_wp2_with fail
            go_roundw
            case rel =>
              refine ⟨m, m, by omega, rfl, by first | rfl | go_num, ?_⟩
              exact Lib.hid (ow_drew (ord_next HO.out.perm OwnV.out belV (by rw [Hml.out]; omega) (by rw [Hml.out]; exact hlt) hk Hx0.out Hx1.out hq HI.out))
            case measure => simp [intOf]
          · have HE : Hid (∃ ml, OW l w wr (some ⟨g, 0, none⟩) c1 ml ∧ ∀ a b, a < b → b < i + 1 → b < l.length → idAt ml a ≤ idAt ml b) :=
              Lib.hid ⟨ml, HO.out, fun a b x y _ => ins_end HI.out (.inr (by
                rw [Nat.add_sub_cancel, idAt_get ml m (by omega), idAt_get ml (m + 1) (by omega), Hx0.out, Hx1.out]; omega)) a b x y⟩
            have e1 : ((m : Int) + 1).toNat = m + 1 := by omega
            have e2 : IntKind.i64.wrap ((m : Int) + 1 - 1) = (m : Int) := by rw [show (m : Int) + 1 - 1 = m by omega]; exact IntWalk.i64_in _ (by omega)
            have e3 : ((m : Int) + 1 - 1) = (m : Int) := by omega
            have hg0 : decide ((0 : Int) < (m : Int) + 1) = true := decide_eq_true (by omega)
            have e4 : (0 : Int) < (m : Int) + 1 := by omega
            have e5 : (m : Int) + 1 < (l.length : Int) := by omega
            go_wp2_with fail
            go_quiet (fail)
            go_wp2_with fail
            go_roundw
            case rel =>
              obtain ⟨ml2, o1, o2⟩ := HE.out
              exact ⟨i + 1, by omega, by omega, by go_num, Lib.hid ⟨ml2, ⟨o1.perm, own_below o1.own (below_drewN (Below.refl _ _) _), below_drewN o1.bel _⟩, o2⟩⟩
            case measure => simp [intOf]; omega
    · have hil : ¬ (i : Int) < (l.length : Int) := by omega
      clear HW
      go_wp2_with fail
      go_ret
      obtain ⟨ml, hO, hS⟩ := hT.out
      have hml : ml.length = l.length := hO.perm.length_eq
      refine ⟨A1, c1, ml, rfl, Lib.hid ⟨hO.perm, ?_, ?_⟩, hO.bel⟩
      · rw [List.pairwise_iff_getElem]
        intro a b ha hb hab
        have := hS a b hab (by omega) (by omega)
        rwa [idAt_get ml a ha, idAt_get ml b hb] at this
      · have hown := hO.own
        rw [← hml] at hown
        refine recs_own hown fun z hz => ?_
        obtain ⟨k, hk, rfl⟩ := List.getElem_of_mem (hO.perm.mem_iff.1 hz)
        obtain ⟨_, _, _, _, _, h3, h4⟩ := h k hk
        exact ⟨h3.later hO.bel, h4⟩

end Go.Proofs.YtoinegfcodnjhaaGreat

namespace Go.Proofs.YtoinegfcodnjhaaGreat
open Go.RowKit Go.Maps

def greatL (l : List RD) : Bool := decide (30 < l.length) || !(l.all fun x => !greatB x.r)

set_option maxRecDepth 100000 in
set_option maxHeartbeats 1000000 in
theorem great_any (l : List RD) (A : Option Addr) (c : Nat) (w : World) (h : Recs w w.heap.size A l) (hl : l.length ≤ maxLen) :
    Calls Tryz.prog 10 #[.slice A l.length c] w fun e w' => e = .returned (.bool (greatL l)) ∧ Below w.heap.size w w' := by
  unfold maxLen at hl
  by_cases h30 : 30 < l.length
  · have h1 : (30 : Int) < (l.length : Int) := by omega
    have HE : Hid (greatL l = true) := Lib.hid (by simp [greatL, h30])
    go_enter Tryz.func10, Tryz.ntmps10
    go_wp2_with fail
    go_ret
    exact ⟨ret_bool HE.out.symm, Below.refl _ _⟩
  · have h1 : ¬ (30 : Int) < (l.length : Int) := by omega
    have HE : Hid (greatL l = !(l.all fun x => !greatB x.r)) := Lib.hid (by simp [greatL, h30])
    go_enter Tryz.func10, Tryz.ntmps10
    go_wp2_with fail
    go_loopw [3] (fun ii wr => ∃ i : Nat, i ≤ l.length ∧ ii = .int .i64 i ∧ Hid ((l.take i).all (fun x => !greatB x.r) = true) ∧ Below w.heap.size w wr) (fun ii _ => l.length - (intOf ii).toNat)
    case atStart => exact ⟨0, Nat.zero_le _, rfl, Lib.hid (by simp), Below.refl _ _⟩
    case round =>
      obtain ⟨i, hi, rfl, hall, hbel⟩ := hrel
      by_cases hlt : i < l.length
      · have hil : (i : Int) < (l.length : Int) := by omega
        obtain ⟨b, off, rfl, hb, C, hr, _⟩ := (h.later hbel).eight hlt
        have HN := Lib.hid (fun hf => all_next (fun x : RD => !greatB x.r) l i hlt hall.out hf)
        have HS := Lib.hid (all_stop (fun x : RD => !greatB x.r) l i hlt)
        generalize l[i] = x at *
        obtain ⟨c0, c1, c2, c3, c4, c5, c6, c7⟩ := C
        have hb1 := hbel.alloc hbel.size (.cells #[.int .i64 x.r.id, .slice x.A x.r.names.length x.c, .int .u8 x.r.suf, .int .i64 x.r.lo, .int .i64 x.r.hi, .string x.r.num, .bool x.r.twin, .slice x.D x.r.stays.length x.d] 47)
        cases hv : greatB x.r with
        | false =>
          have HV := Lib.hid (hv ▸ greatOne_any x.A x.D x.c x.d x.r wr hr)
          have HN2 := Lib.hid (HN.out (by simp [hv]))
          clear HN HS hv hall
          go_wp2_with (go_at_call 28; (with_reducible refine (HV.out).mono ?_); rintro e w1 ⟨rfl, rfl⟩)
          go_roundw
          case rel => exact ⟨i + 1, by omega, by go_num, HN2, hb1⟩
          case measure => simp [intOf]; omega
        | true =>
          have HV := Lib.hid (hv ▸ greatOne_any x.A x.D x.c x.d x.r wr hr)
          have HS2 := Lib.hid (HS.out (by simp [hv]))
          clear HN HS hv hall
          go_wp2_with (go_at_call 28; (with_reducible refine (HV.out).mono ?_); rintro e w1 ⟨rfl, rfl⟩)
          go_ret
          exact ⟨ret_bool (by rw [HE.out, HS2.out]; rfl), hb1⟩
      · have hil : ¬ (i : Int) < (l.length : Int) := by omega
        have hok := Lib.hid (all_end (fun x : RD => !greatB x.r) l i hlt hall.out)
        clear hall
        go_wp2_with fail
        go_ret
        exact ⟨ret_bool (by rw [HE.out, hok.out]; rfl), hbel⟩

set_option maxRecDepth 100000 in
set_option maxHeartbeats 2000000 in
theorem refRecords_any (l : List RD) (A : Option Addr) (c : Nat) (w : World) (h : Recs w w.heap.size A l) (hl : l.length ≤ maxLen) :
    Calls Tryz.prog 27 #[.slice A l.length c] w fun e w' => e = .returned (.int .i64 (listE l)) ∧ Below w.heap.size w w' := by
  unfold maxLen at hl
  by_cases h24 : 24 < l.length
  · have h1 : (24 : Int) < (l.length : Int) := by omega
    have HE : Hid (listE l = 4) := Lib.hid (by rw [listE, if_pos h24])
    go_enter Tryz.func27, Tryz.ntmps27
    go_wp2_with fail
    go_ret
    exact ⟨ret_int HE.out.symm, Below.refl _ _⟩
  · have h1 : ¬ (24 : Int) < (l.length : Int) := by omega
    have HE : Hid (listE l = if recsB l = true then (if (idsOf l).Nodup then 0 else 12) else 11) := Lib.hid (by rw [listE, if_neg h24])
    go_enter Tryz.func27, Tryz.ntmps27
    go_wp2_with fail
    go_loopw [3] (fun ii wr => ∃ i : Nat, i ≤ l.length ∧ ii = .int .i64 i ∧ Hid ((l.take i).all (fun x => recB x.r) = true) ∧ Below w.heap.size w wr) (fun ii _ => l.length - (intOf ii).toNat)
    case atStart => exact ⟨0, Nat.zero_le _, rfl, Lib.hid (by simp), Below.refl _ _⟩
    case round =>
      obtain ⟨i, hi, rfl, hall, hbel⟩ := hrel
      by_cases hlt : i < l.length
      · have hil : (i : Int) < (l.length : Int) := by omega
        obtain ⟨b, off, rfl, hb, C, hr, _⟩ := (h.later hbel).eight hlt
        have HN := Lib.hid (fun hf => all_next (fun x : RD => recB x.r) l i hlt hall.out hf)
        have HS := Lib.hid (all_stop (fun x : RD => recB x.r) l i hlt)
        generalize l[i] = x at *
        obtain ⟨c0, c1, c2, c3, c4, c5, c6, c7⟩ := C
        cases hv : recB x.r with
        | true =>
          have HV := Lib.hid (hv ▸ refRecord_any x.A x.D x.c x.d x.r wr hr)
          have HN2 := Lib.hid (HN.out hv)
          clear HN HS hv hall
          go_wp2_with (go_at_call 21; (with_reducible refine (HV.out).mono ?_); rintro e w1 ⟨rfl, e1⟩)
          go_roundw
          case rel => exact ⟨i + 1, by omega, by go_num, HN2, hbel.trans (e1.mono hbel.size)⟩
          case measure => simp [intOf]; omega
        | false =>
          have HV := Lib.hid (hv ▸ refRecord_any x.A x.D x.c x.d x.r wr hr)
          have HS2 := Lib.hid (HS.out hv)
          clear HN HS hv hall
          go_wp2_with (go_at_call 21; (with_reducible refine (HV.out).mono ?_); rintro e w1 ⟨rfl, e1⟩)
          go_ret
          exact ⟨ret_int (by rw [HE.out, recsB, HS2.out]; rfl), hbel.trans (e1.mono hbel.size)⟩
      · have hil : ¬ (i : Int) < (l.length : Int) := by omega
        have hok := all_end (fun x : RD => recB x.r) l i hlt hall.out
        have HE2 : Hid (listE l = if (idsOf l).Nodup then 0 else 12) := Lib.hid (by rw [HE.out, if_pos (show recsB l = true from hok)])
        clear HE hall hok
        obtain ⟨wo, rfl⟩ : ∃ wo : World, wo = wr := ⟨_, rfl⟩
        have hlen : (idsOf l).length = l.length := by simp [idsOf]
        have Hlen := Lib.hid hlen
        clear hlen
        go_wp2_with fail
        go_loopw [4, 5] (fun ii kk wr => ∃ i : Nat, i ≤ l.length ∧ ii = .int .i64 i ∧ Hid (((idsOf l).take i).Nodup) ∧ Below w.heap.size w wr) (fun ii _ _ => l.length - (intOf ii).toNat)
        case atStart => exact ⟨0, Nat.zero_le _, rfl, Lib.hid (by simp), hbel⟩
        case round =>
          obtain ⟨i, hi, rfl, hnd, hb2⟩ := hrel
          by_cases hlt : i < l.length
          · have hil : (i : Int) < (l.length : Int) := by omega
            have hx : (idsOf l)[i]'(by rw [Hlen.out]; exact hlt) = l[i].r.id := by simp [idsOf]
            have HN := Lib.hid (nodup_next (l := idsOf l) (k := i) (by rw [Hlen.out]; exact hlt) hnd.out)
            have HS := Lib.hid (nodup_stop (l := idsOf l) (k := i) (by rw [Hlen.out]; exact hlt))
            rw [hx] at HN HS
            clear hx hnd
            obtain ⟨wq, rfl⟩ : ∃ wq : World, wq = wr := ⟨_, rfl⟩
            go_wp2_with fail
            go_loopw [5] (fun kk wr => ∃ k : Nat, k ≤ i ∧ kk = .int .i64 k ∧ Hid (l[i].r.id ∉ (idsOf l).take k) ∧ Below w.heap.size w wr) (fun kk _ => i - (intOf kk).toNat)
            case atStart => exact ⟨0, Nat.zero_le _, rfl, Lib.hid (by simp), hb2⟩
            case round =>
              obtain ⟨k, hk, rfl, hmem, hb3⟩ := hrel
              by_cases hki : k < i
              · have hkl : (k : Int) < (i : Int) := by omega
                have hkl2 : (k : Int) < (l.length : Int) := by omega
                obtain ⟨b, off, rfl, hb, C, _, _⟩ := (h.later hb3).eight hlt
                obtain ⟨b', off', he, _, C', _, _⟩ := (h.later hb3).eight (show k < l.length by omega)
                cases he
                have d0 := C.c0
                have d1 := C'.c0
                have hy : (idsOf l)[k]'(by rw [Hlen.out]; omega) = l[k].r.id := by simp [idsOf]
                have HT : Hid ((idsOf l).take (k + 1) = (idsOf l).take k ++ [l[k].r.id]) := Lib.hid (by
                  rw [List.take_succ_eq_append_getElem (by rw [Hlen.out]; omega), hy])
                have HI : Hid (l[k].r.id ∈ (idsOf l).take i) := Lib.hid (by
                  rw [List.mem_take_iff_getElem]
                  exact ⟨k, by rw [Hlen.out]; omega, hy⟩)
                clear C C' hy
                generalize l[k].r.id = y at *
                generalize l[i].r.id = x at *
                by_cases hxy : x = y
                · have hq : (x == y) = true := by simp [hxy]
                  have HS2 := Lib.hid (HS.out (hxy ▸ HI.out))
                  clear hxy HN HS HI HT hmem
                  go_wp2_with fail
                  go_quiet (fail)
                  go_wp2_with fail
                  go_ret
                  exact ⟨ret_int (by rw [HE2.out, if_neg HS2.out]), below_drewN hb3 _⟩
                · have hq : (x == y) = false := by simp [hxy]
                  have HM : Hid (x ∉ (idsOf l).take (k + 1)) := Lib.hid (by
                    rw [HT.out, List.mem_append]; simp only [List.mem_singleton]
                    exact fun e => e.elim hmem.out hxy)
                  clear hxy HI HT hmem
                  go_wp2_with fail
                  go_quiet (fail)
                  go_wp2_with fail
                  go_roundw
                  case rel => exact ⟨k + 1, by omega, by go_num, HM, below_drewN hb3 _⟩
                  case measure => simp [intOf]; omega
              · have hki2 : ¬ (k : Int) < (i : Int) := by omega
                have hke : k = i := by omega
                have HN2 := Lib.hid (HN.out (hke ▸ hmem.out))
                clear HN HS hke hmem
                go_wp2_with fail
                go_roundw
                case rel => exact ⟨i + 1, by omega, by go_num, HN2, hb3⟩
                case measure => simp [intOf]; omega
          · have hil : ¬ (i : Int) < (l.length : Int) := by omega
            have hfin : Hid ((idsOf l).Nodup) := Lib.hid (by
              have := hnd.out
              rwa [List.take_of_length_le (by rw [Hlen.out]; omega)] at this)
            clear hnd
            go_wp2_with fail
            go_ret
            exact ⟨ret_int (by rw [HE2.out, if_pos hfin.out]), hb2⟩

end Go.Proofs.YtoinegfcodnjhaaGreat

namespace Go.Proofs.YtoinegfcodnjhaaGreat
open Go.RowKit Go.Maps

/-- The least place that is greater than one, of the stays on a day; -1: there is none. -/
structure NextIs (S : List Stay) (day place nx : Int) : Prop where
  is : nx = -1 ∨ (place < nx ∧ ∃ s ∈ S, onDay day s = true ∧ s.p = nx)
  least : ∀ s ∈ S, onDay day s = true → place < s.p → 0 ≤ nx ∧ nx ≤ s.p
theorem NextIs.nil (day place : Int) : NextIs [] day place (-1) := ⟨.inl rfl, fun s h => by cases h⟩
theorem NextIs.take {S : List Stay} {day place nx : Int} {s : Stay} (h : NextIs S day place nx) (h0 : 0 ≤ s.p) (hon : onDay day s = true) (hp : place < s.p) (hn : nx < 0 ∨ s.p < nx) : NextIs (S ++ [s]) day place s.p :=
  ⟨.inr ⟨hp, s, by simp, hon, rfl⟩, fun z hz ho hq => by
    rcases List.mem_append.1 hz with hz | hz
    · have := h.least z hz ho hq; omega
    · simp only [List.mem_singleton] at hz; subst hz; omega⟩
theorem NextIs.skip {S : List Stay} {day place nx : Int} {s : Stay} (h : NextIs S day place nx) (hs : onDay day s = true → place < s.p → 0 ≤ nx ∧ nx ≤ s.p) : NextIs (S ++ [s]) day place nx :=
  ⟨h.is.imp id fun ⟨h1, z, hz, h2⟩ => ⟨h1, z, List.mem_append_left _ hz, h2⟩, fun z hz ho hq => by
    rcases List.mem_append.1 hz with hz | hz
    · exact h.least z hz ho hq
    · simp only [List.mem_singleton] at hz; subst hz; exact hs ho hq⟩
theorem onDay_of {day : Int} {s : Stay} (h1 : s.f ≤ day) (h2 : day ≤ s.t) : onDay day s = true := by simp [onDay, inB, h1, h2]
theorem onDay_f {day : Int} {s : Stay} (h1 : ¬ s.f ≤ day) : onDay day s = false := by simp [onDay, inB, h1]
theorem onDay_t {day : Int} {s : Stay} (h1 : ¬ day ≤ s.t) : onDay day s = false := by simp [onDay, inB, h1]

def prevP (P : List Int) (k : Nat) : Int := if h : 0 < k ∧ k - 1 < P.length then P[k - 1]'h.2 else -1
theorem prevP_step {P : List Int} {k : Nat} (h : k < P.length) : prevP P (k + 1) = P[k] := by
  unfold prevP; rw [dif_pos ⟨by omega, by simpa using h⟩]; simp
theorem prevP_zero (P : List Int) : prevP P 0 = -1 := by unfold prevP; rw [dif_neg (by omega)]
theorem placesL_on (day p : Int) (l : List Rec) : p ∈ placesL day l ↔ ∃ s ∈ l.flatMap Rec.stays, onDay day s = true ∧ s.p = p := by
  unfold placesL
  rw [(List.mergeSort_perm _ _).mem_iff, List.mem_eraseDups, List.mem_flatMap]
  constructor
  · rintro ⟨r, hr, h⟩
    obtain ⟨s, hs, rfl⟩ := List.mem_map.1 h
    obtain ⟨h1, h2⟩ := List.mem_filter.1 hs
    exact ⟨s, List.mem_flatMap.2 ⟨r, hr, h1⟩, h2, rfl⟩
  · rintro ⟨s, hs, ho, rfl⟩
    obtain ⟨r, hr, h1⟩ := List.mem_flatMap.1 hs
    exact ⟨r, hr, List.mem_map.2 ⟨s, List.mem_filter.2 ⟨h1, ho⟩, rfl⟩⟩
theorem placesL_strict (day : Int) (l : List Rec) : (placesL day l).Pairwise (· < ·) := sortI_strict (eraseDups_nodup _ _ (Nat.le_refl _))

theorem next_end {day : Int} {l : List Rec} {k : Nat} {nx : Int} (h0 : ∀ s ∈ l.flatMap Rec.stays, 0 ≤ s.p) (hk : k ≤ (placesL day l).length) (h : NextIs (l.flatMap Rec.stays) day (prevP (placesL day l) k) nx) :
    (nx = -1 ∧ k = (placesL day l).length) ∨ (0 ≤ nx ∧ ∃ hk : k < (placesL day l).length, (placesL day l)[k] = nx) := by
  have hs := placesL_strict day l
  have hm := fun p => placesL_on day p l
  generalize placesL day l = P at *
  rw [List.pairwise_iff_getElem] at hs
  have hgt : ∀ j (hj : j < P.length), k ≤ j → prevP P k < P[j] := fun j hj hkj => by
    unfold prevP
    split
    · rename_i h1; exact hs _ _ h1.2 hj (by omega)
    · obtain ⟨s, hs1, _, e⟩ := (hm P[j]).1 (List.getElem_mem hj)
      have := h0 s hs1; omega
  have hlt : ∀ j (hj : j < P.length), prevP P k < P[j] → k ≤ j := fun j hj hp => by
    rcases Nat.lt_or_ge j k with hjk | hjk
    · exfalso
      unfold prevP at hp
      rw [dif_pos ⟨by omega, by omega⟩] at hp
      rcases Nat.lt_or_ge j (k - 1) with h1 | h1
      · have := hs j (k - 1) hj (by omega) h1; omega
      · have e : j = k - 1 := by omega
        subst e; omega
    · exact hjk
  by_cases hkl : k < P.length
  · obtain ⟨s, hs1, hs2, hs3⟩ := (hm P[k]).1 (List.getElem_mem hkl)
    have hg := hgt k hkl (Nat.le_refl _)
    have hle := h.least s hs1 hs2 (by omega)
    rcases h.is with e | ⟨h1, z, hz1, hz2, hz3⟩
    · omega
    · right
      refine ⟨hle.1, hkl, ?_⟩
      obtain ⟨m, hm1, hm2⟩ := List.getElem_of_mem ((hm nx).2 ⟨z, hz1, hz2, hz3⟩)
      have hkm := hlt m hm1 (by omega)
      rcases Nat.lt_or_ge k m with h2 | h2
      · have := hs k m hkl hm1 h2; omega
      · have e : m = k := by omega
        subst e; exact hm2
  · left
    rcases h.is with e | ⟨h1, z, hz1, hz2, hz3⟩
    · exact ⟨e, by omega⟩
    · exfalso
      obtain ⟨m, hm1, hm2⟩ := List.getElem_of_mem ((hm nx).2 ⟨z, hz1, hz2, hz3⟩)
      have := hlt m hm1 (by omega)
      omega
theorem prevP_bound {day : Int} {l : List Rec} (h0 : ∀ s ∈ l.flatMap Rec.stays, 0 ≤ s.p) (k : Nat) : -1 ≤ prevP (placesL day l) k := by
  unfold prevP
  split
  · rename_i h1
    obtain ⟨s, hs1, _, e⟩ := (placesL_on day _ l).1 (List.getElem_mem h1.2)
    have := h0 s hs1; omega
  · omega
theorem strict_ge {P : List Int} (hs : P.Pairwise (· < ·)) (h0 : ∀ p ∈ P, 0 ≤ p) : ∀ (k : Nat) (hk : k < P.length), (k : Int) ≤ P[k]
  | 0, hk => h0 _ (List.getElem_mem hk)
  | k + 1, hk => by
    have h1 := strict_ge hs h0 k (by omega)
    have h2 := (List.pairwise_iff_getElem.1 hs) k (k + 1) (by omega) hk (by omega)
    omega
theorem prevP_lt {day : Int} {l : List Rec} (h0 : ∀ s ∈ l.flatMap Rec.stays, 0 ≤ s.p ∧ s.p ≤ 99999) {k : Nat} (hk : k < (placesL day l).length) : prevP (placesL day l) k < (placesL day l)[k] ∧ (placesL day l)[k] ≤ 99999 ∧ (k : Int) ≤ (placesL day l)[k] := by
  obtain ⟨s, hs1, _, e⟩ := (placesL_on day _ l).1 (List.getElem_mem hk)
  have h1 := h0 s hs1
  refine ⟨?_, by omega, strict_ge (placesL_strict day l) (fun p hp => by
    obtain ⟨z, hz, _, ez⟩ := (placesL_on day p l).1 hp
    have := h0 z hz
    omega) k hk⟩
  unfold prevP
  split
  · rename_i h2
    have h3 := placesL_strict day l
    rw [List.pairwise_iff_getElem] at h3
    exact h3 _ _ h2.2 hk (by omega)
  · omega

/-! Who is there. -/
def hereB (day p : Int) (s : Stay) : Bool := decide (s.p = p) && onDay day s
theorem atB_here (day p : Int) (r : Rec) : atB day p r = r.stays.any (hereB day p) := by
  unfold atB ofP hereB; rw [List.any_filter]
theorem any_snoc {α : Type} (f : α → Bool) (l : List α) (k : Nat) (h : k < l.length) : (l.take (k + 1)).any f = ((l.take k).any f || f l[k]) := by
  rw [List.take_succ_eq_append_getElem h, List.any_append]; simp

/-! The lists that are collected. -/
structure HInv (B : Nat) (W0 w : World) (vo : Value) (ps : List (Value × List Int)) : Prop where
  out : w.ownsRow B 77 1 vo ps.length (ps.map (·.1))
  row : ∀ p ∈ ps, w.ownsRow B 3 1 p.1 p.2.length (p.2.map (Value.int .i64)) ∧ (p.1.ownBlock = none ∨ p.1.ownBlock ≠ vo.ownBlock)
  below : Below B W0 w
theorem HInv.later {B : Nat} {W0 w w' : World} {vo : Value} {ps : List (Value × List Int)} (h : HInv B W0 w vo ps) (hb : Below w.heap.size w w') (hB : B ≤ w.heap.size) : HInv B W0 w' vo ps :=
  ⟨own_below h.out hb, fun p hp => ⟨own_below (h.row p hp).1 hb, (h.row p hp).2⟩, h.below.trans (hb.mono hB)⟩
theorem HInv.step {B b2 : Nat} {W0 w w1 : World} {vo vo' v : Value} {ps : List (Value × List Int)} {hs : List Int} (h : HInv B W0 w vo ps) (hB : B ≤ w.heap.size) (hv : w.ownsRow b2 3 1 v hs.length (hs.map (Value.int .i64)))
    (hb2 : ∀ g, vo.ownBlock = some g → g < b2) (hBb : B ≤ b2) (hown : w1.ownsRow B 77 1 vo' (ps.length + 1) (ps.map (·.1) ++ [v])) (hg : w.grownBy w1 vo.ownBlock) (hat : vo'.ownBlock = vo.ownBlock ∨ vo'.ownBlock = some w.heap.size) :
    HInv B W0 w1 vo' (ps ++ [(v, hs)]) := by
  have hfar : v.ownBlock = none ∨ v.ownBlock ≠ vo.ownBlock := by
    cases hx : v.ownBlock with
    | none => exact .inl rfl
    | some g =>
      refine .inr fun e => ?_
      have h1 := (hv.lt g hx).1
      have h2 := hb2 g e.symm
      omega
  have hnew : ∀ {b : Nat} {x : Value} {n : Nat} {xs : List Value}, w.ownsRow b 3 1 x n xs → (x.ownBlock = none ∨ x.ownBlock ≠ vo.ownBlock) → (x.ownBlock = none ∨ x.ownBlock ≠ vo'.ownBlock) := fun {b x n xs} ho hx => by
    rcases hat with e | e
    · rw [e]; exact hx
    · cases hq : x.ownBlock with
      | none => exact .inl rfl
      | some g =>
        refine .inr fun e2 => ?_
        rw [e] at e2
        have h1 := (ho.lt g hq).2
        have h2 := Option.some.inj e2
        omega
  refine ⟨by rw [List.length_append, List.map_append]; exact hown, fun p hp => ?_, h.below.grown hg hB fun k e => (h.out.lt k e).1⟩
  rcases List.mem_append.1 hp with hp | hp
  · obtain ⟨h1, h2⟩ := h.row p hp
    exact ⟨h1.kept hg h2, hnew h1 h2⟩
  · simp only [List.mem_singleton] at hp
    subst hp
    exact ⟨own_base (hv.kept hg hfar) hBb, hnew hv hfar⟩
theorem HInv.lists {B : Nat} {W0 w : World} {A : Option Addr} {n c : Nat} {ps : List (Value × List Int)} (h : HInv B W0 w (.slice A n c) ps) : Lists w w.heap.size A (ps.map (·.2)) := by
  intro j hj
  rw [List.length_map] at hj
  obtain ⟨g, cap, hv, hgb, hglt⟩ := h.out.form (by omega)
  injection hv with hA hn
  subst hA hn
  have hrow := (h.row ps[j] (List.getElem_mem hj)).1
  obtain ⟨A9, c9, hv9⟩ := own_slice hrow
  rw [hv9] at hrow
  refine ⟨g, 0, rfl, hglt, A9, c9, ?_, ?_⟩
  · rw [Nat.zero_add, World.ownsRow.cellAt (n := ps.length) (size := 1) h.out j (by omega)]
    simp only [List.getElem_map]
    rw [List.getElem?_map, List.getElem?_eq_getElem hj, Option.map_some, hv9]
  · rw [List.getElem_map]
    exact Ints.of_own hrow

end Go.Proofs.YtoinegfcodnjhaaGreat

namespace Go.Proofs.YtoinegfcodnjhaaGreat
open Go.RowKit Go.Maps

theorem recs_nodup {l : List Rec} (hE : recsE l = 0) : (l.map Rec.id).Nodup := by
  unfold recsE at hE
  by_cases h24 : 24 < l.length
  · rw [if_pos h24] at hE; omega
  · rw [if_neg h24] at hE
    by_cases hok : l.all recB = true
    · rw [if_pos hok] at hE
      by_cases hnd : (l.map Rec.id).Nodup
      · exact hnd
      · rw [if_neg hnd] at hE; omega
    · rw [if_neg hok] at hE; omega
/-- The list in order, as told of plain data. -/
theorem ord_at (l : List RD) (A : Option Addr) (c : Nat) (w : World) (h : Recs w w.heap.size A l) (hE : recsE (l.map RD.r) = 0) :
    Calls Tryz.prog 33 #[.slice A l.length c] w fun e w' => ∃ A' c', ∃ ol : List RD, e = .returned (.slice A' ol.length c') ∧ ol.map RD.r = sortR (l.map RD.r) ∧ ol.length = l.length ∧ Recs w' w'.heap.size A' ol ∧ Below w.heap.size w w' := by
  have h24 := (recB_of_zero hE).2
  rw [List.length_map] at h24
  refine (ordered_any l A c w h (by omega)).mono fun e w' ⟨A', c', ol, he, hH, hb⟩ => ?_
  obtain ⟨hp, hs, hr⟩ := hH.out
  have hn := hp.length_eq
  refine ⟨A', c', ol, by rw [hn]; exact he, sorted_eq (hp.map RD.r) (List.pairwise_map.2 hs) (recs_nodup hE), hn, hr, hb⟩
theorem pairRow_start (u : Rul) (k : Int) (l : List Rec) (i : Nat) : pairRow u k l i (i + 1) = [] := by
  unfold pairRow
  rw [List.map_eq_nil_iff, List.filter_eq_nil_iff]
  intro j hj
  have : ¬ i < j := by have := List.mem_range.1 hj; omega
  simp [this]

set_option maxRecDepth 100000 in
set_option maxHeartbeats 4000000 in
theorem refPairs_any (u : Rul) (l : List RD) (A : Option Addr) (c : Nat) (w : World) (h : Recs w w.heap.size A l) (hl : l.length ≤ maxLen) :
    Calls Tryz.prog 13 #[.agg #[.int .i64 u.l, .int .i64 u.d, .int .i64 u.y, .int .i64 u.t], .slice A l.length c] w fun e w' => ∃ v4 v5, e = .returned (.tuple #[v4, v5, .int .i64 (pairsE u (l.map RD.r))]) ∧
      w'.ownsRow w.heap.size 71 2 v4 (pairsV u 2 (l.map RD.r)).length (pairCells (pairsV u 2 (l.map RD.r))) ∧ w'.ownsRow w.heap.size 71 2 v5 (pairsV u 1 (l.map RD.r)).length (pairCells (pairsV u 1 (l.map RD.r))) ∧ Below w.heap.size w w' := by
  have b0 := (Below.refl w.heap.size w).alloc (Nat.le_refl _) (.cells #[.int .i64 u.l, .int .i64 u.d, .int .i64 u.y, .int .i64 u.t] 23)
  have k0 := Blk.new w #[.int .i64 u.l, .int .i64 u.d, .int .i64 u.y, .int .i64 u.t] 23
  have Hl := h.later b0
  cases hR : rulesB u.l u.d u.y u.t with
  | false =>
    have hE : pairsE u (l.map RD.r) = 10 := by rw [pairsE, hR]; rfl
    have hV : ∀ k, pairsV u k (l.map RD.r) = [] := fun k => by rw [pairsV, if_neg (by rw [hE]; decide)]
    rw [hE, hV, hV]
    have HA := Lib.hid (fun W => hR ▸ refRules_any u.l u.d u.y u.t W)
    clear hE hV hR
    go_enter Tryz.func13, Tryz.ntmps13
    have c0 := k0.cell
    go_wp2_with (go_at_call 20; with_reducible refine (HA.out _).mono ?_; rintro e w1 ⟨rfl, rfl⟩)
    go_ret3
    exact ⟨_, _, rfl, World.ownsRow_nil _ _ _ _, World.ownsRow_nil _ _ _ _, b0.alloc b0.size _⟩
  | true =>
    have hEq : pairsE u (l.map RD.r) = recsE (l.map RD.r) := by rw [pairsE, hR]; rfl
    have HA := Lib.hid (fun W => hR ▸ refRules_any u.l u.d u.y u.t W)
    have HL := Lib.hid (fun W hh => listE_eq l ▸ refRecords_any l A c W hh hl)
    by_cases hz : recsE (l.map RD.r) = 0
    · have hV : ∀ k, pairsV u k (l.map RD.r) = pairTo u k (sortR (l.map RD.r)) (l.map RD.r).length := fun k => by rw [pairsV, if_pos (hEq.trans hz)]
      rw [hEq, hV, hV, hz]
      rw [hz] at HL
      have HP := Lib.hid (fun W hh => ord_at l A c W hh hz)
      obtain ⟨hrec, h24⟩ := recB_of_zero hz
      have hlen : (sortR (l.map RD.r)).length = (l.map RD.r).length := (sortR_perm _).length_eq
      rw [List.length_map] at hlen h24 ⊢
      generalize sortR (l.map RD.r) = rl at *
      clear hV hEq hz hR
      have Hrec := Lib.hid hrec
      have Hlen := Lib.hid hlen
      clear hrec hlen
      obtain ⟨i0, hi0, hz0, hz1, hz2⟩ := info_parts pairInfo
      go_enter Tryz.func13, Tryz.ntmps13
      have c0 := k0.cell
      go_wp2_with (first
        | (go_at_call 20; with_reducible refine (HA.out _).mono ?_; rintro e w1 ⟨rfl, rfl⟩; have b1 := b0.alloc b0.size (.cells #[.int .i64 u.l, .int .i64 u.d, .int .i64 u.y, .int .i64 u.t] 23); have Hl1 := h.later b1)
        | (go_at_call 27; with_reducible refine (HL.out _ Hl1).mono ?_; rintro e w2 ⟨rfl, h2⟩; have b2 := b1.trans (h2.mono b1.size); have Hl2 := h.later b2)
        | (go_at_call 33; with_reducible refine (HP.out _ Hl2).mono ?_; rintro e w3 ⟨A', c', pl, rfl, hpl, hpn, hPA, h3⟩; have b3 := b2.trans (h3.mono b2.size); have hp24 : pl.length ≤ 24 := (by omega); have Hpn := Lib.hid hpn; clear hpn))
      subst hpl
      have hpn' : (pl.map RD.r).length = pl.length := by simp
      have hR : ∀ i, (hi : i < pl.length) → (pl.map RD.r)[i]! = pl[i].r := fun i hi => by simp [hi]
      have HR := Lib.hid hR
      have K1 := ((k0.alloc (.cells #[.int .i64 u.l, .int .i64 u.d, .int .i64 u.y, .int .i64 u.t] 23)).below h2 (by simp; omega)).below h3 (by have := h2.size; simp at this; omega)
      clear HA HL HP c0 h2 h3 b1 b2 Hl1 Hl2 hR hpn'
      have hB3 : w3.heap.size ≤ w3.heap.size := Nat.le_refl _
      go_loopw [8, 9, 10] (fun v4 v5 ii wr => ∃ i : Nat, i ≤ pl.length ∧ ii = .int .i64 i ∧ Hid (PInv w3.heap.size w3 wr v4 v5 (pairTo u 2 (pl.map RD.r) i) (pairTo u 1 (pl.map RD.r) i))) (fun _ _ ii _ => pl.length - (intOf ii).toNat)
      case atStart => exact ⟨0, Nat.zero_le _, rfl, Lib.hid ⟨World.ownsRow_nil _ _ _ _, World.ownsRow_nil _ _ _ _, .inl rfl, Below.refl _ _⟩⟩
      case round =>
        obtain ⟨i, hi, rfl, hP⟩ := hrel
        by_cases hlt : i < pl.length
        · have hil : (i : Int) < (pl.length : Int) := by omega
          obtain ⟨wo, rfl⟩ : ∃ wo : World, wo = wr := ⟨_, rfl⟩
          go_wp2_with fail
          go_loopw [8, 9, 11] (fun v4 v5 jj wr => ∃ j : Nat, i < j ∧ j ≤ pl.length ∧ jj = .int .i64 j ∧ Hid (PInv w3.heap.size w3 wr v4 v5 (pairTo u 2 (pl.map RD.r) i ++ pairRow u 2 (pl.map RD.r) i j) (pairTo u 1 (pl.map RD.r) i ++ pairRow u 1 (pl.map RD.r) i j))) (fun _ _ jj _ => pl.length - (intOf jj).toNat)
          case atStart => exact ⟨i + 1, by omega, by omega, by go_num, Lib.hid (by rw [pairRow_start, pairRow_start, List.append_nil, List.append_nil]; exact hP.out)⟩
          case round =>
            obtain ⟨j, hij, hj, rfl, hQ⟩ := hrel
            by_cases hjt : j < pl.length
            · have hjl : (j : Int) < (pl.length : Int) := by omega
              have Hs2 := Lib.hid (HR.out i hlt ▸ HR.out j hjt ▸ pairRow_step u 2 (pl.map RD.r) i j)
              have Hs1 := Lib.hid (HR.out i hlt ▸ HR.out j hjt ▸ pairRow_step u 1 (pl.map RD.r) i j)
              have hbel := hQ.out.below
              obtain ⟨b, off, rfl, hb, C, _, _⟩ := (hPA.later hbel).eight hlt
              obtain ⟨b', off', e', hb', C', _, _⟩ := (hPA.later hbel).eight hjt
              cases e'
              have ci := C.c0
              have cj := C'.c0
              have hbs := hbel.size
              have cia : ∀ o : Obj, (wr.alloc o).cell? ⟨b, off + i * 8, none⟩ = some (.int .i64 pl[i].r.id) := fun o => (((Below.refl wr.heap.size wr).alloc (Nat.le_refl _) o).cell (p := ⟨b, off + i * 8, none⟩) (by show b < _; omega)).trans ci
              have cja : ∀ o : Obj, (wr.alloc o).cell? ⟨b, off + j * 8, none⟩ = some (.int .i64 pl[j].r.id) := fun o => (((Below.refl wr.heap.size wr).alloc (Nat.le_refl _) o).cell (p := ⟨b, off + j * 8, none⟩) (by show b < _; omega)).trans cj
              have hb1 : Below wr.heap.size wr (wr.alloc (.cells #[.int .i64 pl[i].r.id, .int .i64 pl[j].r.id] 71)).drew := ((Below.refl _ _).alloc (Nat.le_refl _) _).drew
              have kp : Blk (wr.alloc (.cells #[.int .i64 pl[i].r.id, .int .i64 pl[j].r.id] 71)).drew wr.heap.size #[.int .i64 pl[i].r.id, .int .i64 pl[j].r.id] 71 := (Blk.new wr _ _).drew
              have HQ1 := Lib.hid (hQ.out.later hb1 hbs)
              have hP1 := hPA.later (hbel.trans (hb1.mono hbs))
              have KU := K1.below (hbel.trans (hb1.mono hbs)) K1.lt
              go_wp2_with fail
              go_region
              generalize (wr.alloc (.cells #[.int .i64 pl[i].r.id, .int .i64 pl[j].r.id] 71)).drew = W1 at *
              have hbW := HQ1.out.below
              obtain ⟨b1, off1, e1, hb1', C1, gai, rmi⟩ := hP1.eight hlt
              cases e1
              obtain ⟨b2, off2, e2, hb2', C2, gaj, rmj⟩ := hP1.eight hjt
              cases e2
              have hri := Hrec.out _ (List.mem_map_of_mem (f := RD.r) (List.getElem_mem hlt))
              have hrj := Hrec.out _ (List.mem_map_of_mem (f := RD.r) (List.getElem_mem hjt))
              clear ci cj cia cja C C'
              generalize pl[i] = p at *
              generalize pl[j] = q at *
              have HC := Lib.hid (fun (x : After W1.heap.size W1) => refCompare_in u p.r q.r p.A q.A p.D q.D p.c q.c p.d q.d x.val (gai.later x.property) (gaj.later x.property) hri hrj rmi rmj)
              clear hri hrj gai gaj rmi rmj hP1 hbel
              generalize matF u p.r q.r = M at HC Hs1 Hs2
              obtain ⟨mn, mk, mb, mp, mo⟩ := M
              dsimp only at HC Hs1 Hs2
              have hfld : ∀ V, (Instr.field 54 (.agg #[.int .u8 mn, .int .u8 mk, .int .u8 mb, .int .u8 mp, .int .u8 mo]) 4).run Tryz.prog V = .ok (.int .u8 mo) V := fun _ => by kernel_rfl
              have cu := After.cells (B := W1.heap.size) KU.cell KU.lt
              have d0 := After.cell (B := W1.heap.size) C1.c0 hb1'
              have d1 := After.cell (B := W1.heap.size) C1.c1 hb1'
              have d2 := After.cell (B := W1.heap.size) C1.c2 hb1'
              have d3 := After.cell (B := W1.heap.size) C1.c3 hb1'
              have d4 := After.cell (B := W1.heap.size) C1.c4 hb1'
              have d5 := After.cell (B := W1.heap.size) C1.c5 hb1'
              have d6 := After.cell (B := W1.heap.size) C1.c6 hb1'
              have d7 := After.cell (B := W1.heap.size) C1.c7 hb1'
              have g0 := After.cell (B := W1.heap.size) C2.c0 hb1'
              have g1 := After.cell (B := W1.heap.size) C2.c1 hb1'
              have g2 := After.cell (B := W1.heap.size) C2.c2 hb1'
              have g3 := After.cell (B := W1.heap.size) C2.c3 hb1'
              have g4 := After.cell (B := W1.heap.size) C2.c4 hb1'
              have g5 := After.cell (B := W1.heap.size) C2.c5 hb1'
              have g6 := After.cell (B := W1.heap.size) C2.c6 hb1'
              have g7 := After.cell (B := W1.heap.size) C2.c7 hb1'
              clear C1 C2
              go_wp2_with fail
              refine wp_region_class_lit (C := fun w' => ∃ x : After W1.heap.size W1, w' = x.val) (by kernel_rfl) (by kernel_rfl) ⟨⟨_, (Below.refl _ _).drew⟩, rfl⟩ ?_
              repeat (go_big_quiet_step ((first
                | (go_at_call 34; with_reducible exact after_of (Nat.le_refl _) _ (HC.out _)))))
              refine wpQuiet_nil ?_
              intro wq hw'
              obtain ⟨⟨wz, hz⟩, hw''⟩ := hw'
              dsimp only at hw''
              subst hw''
              clear hfld d0 d1 d2 d3 d4 d5 d6 d7 g0 g1 g2 g3 g4 g5 g6 g7 cu HC
              have hbz : w3.heap.size ≤ wq.heap.size := Nat.le_trans (Nat.le_trans hbs hb1.size) hz.size
              have HQ2 := Lib.hid (HQ1.out.later hz (Nat.le_trans hbs hb1.size))
              have kp2 := (kp.below hz kp.lt)
              have pcell := kp2.cell
              have hn2 : (pairTo u 2 (pl.map RD.r) i ++ pairRow u 2 (pl.map RD.r) i j).length ≤ 1000 := by
                have h1 := pairTo_le u 2 (pl.map RD.r) i
                have h2 := pairRow_le u 2 (pl.map RD.r) i j
                rw [List.length_map] at h1
                have h3 : i * pl.length ≤ 24 * 24 := Nat.mul_le_mul (by omega) hp24
                rw [List.length_append]; omega
              have hn1 : (pairTo u 1 (pl.map RD.r) i ++ pairRow u 1 (pl.map RD.r) i j).length ≤ 1000 := by
                have h1 := pairTo_le u 1 (pl.map RD.r) i
                have h2 := pairRow_le u 1 (pl.map RD.r) i j
                rw [List.length_map] at h1
                have h3 : i * pl.length ≤ 24 * 24 := Nat.mul_le_mul (by omega) hp24
                rw [List.length_append]; omega
              have HQ3 := Lib.hid (HQ2.out.later ((Below.refl wq.heap.size wq).alloc (Nat.le_refl _) (.cells #[.int .i64 p.r.id, .int .i64 q.r.id] 71)) hbz)
              have hbz3 : w3.heap.size ≤ (wq.alloc (.cells #[.int .i64 p.r.id, .int .i64 q.r.id] 71)).heap.size := by simp; omega
              clear hbW kp kp2 KU HQ1 hz hb1 hP
              by_cases h1 : mo = 1
              · subst h1
                have hs2 := Hs2.out
                have hs1 := Hs1.out
                rw [if_neg (by omega), List.append_nil] at hs2
                rw [if_pos ⟨hij, rfl⟩] at hs1
                have Hs2' := Lib.hid hs2
                have Hs1' := Lib.hid hs1
                clear hs1 hs2 Hs1 Hs2
                go_wp2_with (at_builtin; refine wpList_append_own_at _ rfl _ _ 27 rfl w3.heap.size 71 i0 _ 2 16 Tryz.underlying27 hi0 hz0 hz1 hz2 rfl (by decide) _ _ _ rfl HQ3.out.o ⟨wq.heap.size, 0, none⟩ 1 1 [.int .i64 p.r.id, .int .i64 q.r.id] rfl rfl (cells_new2 _ _ _) (by simp [Value.oneCell']) (by unfold maxLen; omega) (by omega) hbz3 ?_; intro v' w5 hown5 hg5 _ hat5)
                have HQ4 := Lib.hid (HQ3.out.open_ hbz3 (p.r.id, q.r.id) hown5 hg5 hat5)
                go_wp2_with fail
                go_roundw
                case rel => exact ⟨j + 1, by omega, by omega, by go_num, Lib.hid (by rw [Hs2'.out, Hs1'.out, ← List.append_assoc]; exact HQ4.out)⟩
                case measure => simp [intOf]; omega
              · have h1' : (mo == 1) = false := by simpa using h1
                by_cases h2 : mo = 2
                · subst h2
                  have hs2 := Hs2.out
                  have hs1 := Hs1.out
                  rw [if_pos ⟨hij, rfl⟩] at hs2
                  rw [if_neg (by omega), List.append_nil] at hs1
                  have Hs2' := Lib.hid hs2
                  have Hs1' := Lib.hid hs1
                  clear hs1 hs2 Hs1 Hs2
                  go_wp2_with (at_builtin; refine wpList_append_own_at _ rfl _ _ 27 rfl w3.heap.size 71 i0 _ 2 16 Tryz.underlying27 hi0 hz0 hz1 hz2 rfl (by decide) _ _ _ rfl HQ3.out.s ⟨wq.heap.size, 0, none⟩ 1 1 [.int .i64 p.r.id, .int .i64 q.r.id] rfl rfl (cells_new2 _ _ _) (by simp [Value.oneCell']) (by unfold maxLen; omega) (by omega) hbz3 ?_; intro v' w5 hown5 hg5 _ hat5)
                  have HQ4 := Lib.hid (HQ3.out.sure hbz3 (p.r.id, q.r.id) hown5 hg5 hat5)
                  go_wp2_with fail
                  go_roundw
                  case rel => exact ⟨j + 1, by omega, by omega, by go_num, Lib.hid (by rw [Hs2'.out, Hs1'.out, ← List.append_assoc]; exact HQ4.out)⟩
                  case measure => simp [intOf]; omega
                · have h2' : (mo == 2) = false := by simpa using h2
                  have hs2 := Hs2.out
                  have hs1 := Hs1.out
                  rw [if_neg (by omega), List.append_nil] at hs2
                  rw [if_neg (by omega), List.append_nil] at hs1
                  have Hs2' := Lib.hid hs2
                  have Hs1' := Lib.hid hs1
                  clear hs1 hs2 Hs1 Hs2
                  go_wp2_with fail
                  go_roundw
                  case rel => exact ⟨j + 1, by omega, by omega, by go_num, Lib.hid (by rw [Hs2'.out, Hs1'.out]; exact HQ2.out)⟩
                  case measure => simp [intOf]; omega
            · have hjl : ¬ (j : Int) < (pl.length : Int) := by omega
              obtain rfl : j = pl.length := by omega
              have Ht2 := Lib.hid (pairTo_step u 2 (pl.map RD.r) i)
              have Ht1 := Lib.hid (pairTo_step u 1 (pl.map RD.r) i)
              rw [List.length_map] at Ht1 Ht2
              go_wp2_with fail
              go_roundw
              case rel => exact ⟨i + 1, by omega, by go_num, Lib.hid (by rw [Ht2.out, Ht1.out]; exact hQ.out)⟩
              case measure => simp [intOf]; omega
        · have hil : ¬ (i : Int) < (pl.length : Int) := by omega
          obtain rfl : i = pl.length := by omega
          have hfin := hP.out
          rw [Hpn.out] at hfin
          have Hfin := Lib.hid hfin
          clear hfin
          go_wp2_with fail
          go_ret3
          exact ⟨_, _, rfl, own_base Hfin.out.s b3.size, own_base Hfin.out.o b3.size, b3.trans (Hfin.out.below.mono b3.size)⟩
    · have hEz : pairsE u (l.map RD.r) ≠ 0 := by rw [hEq]; exact hz
      have hV : ∀ k, pairsV u k (l.map RD.r) = [] := fun k => by rw [pairsV, if_neg hEz]
      rw [hV, hV, hEq]
      have hne : (recsE (l.map RD.r) != 0) = true := by simpa using hz
      clear hEq hz hEz hV
      generalize recsE (l.map RD.r) = E at HL hne ⊢
      go_enter Tryz.func13, Tryz.ntmps13
      have c0 := k0.cell
      go_wp2_with (first
        | (go_at_call 20; with_reducible refine (HA.out _).mono ?_; rintro e w1 ⟨rfl, rfl⟩; have b1 := b0.alloc b0.size (.cells #[.int .i64 u.l, .int .i64 u.d, .int .i64 u.y, .int .i64 u.t] 23); have Hl1 := h.later b1)
        | (go_at_call 27; with_reducible refine (HL.out _ Hl1).mono ?_; rintro e w2 ⟨rfl, h2⟩; have b2 := b1.trans (h2.mono b1.size)))
      go_ret3
      exact ⟨_, _, rfl, World.ownsRow_nil _ _ _ _, World.ownsRow_nil _ _ _ _, b2⟩

end Go.Proofs.YtoinegfcodnjhaaGreat

namespace Go.Proofs.YtoinegfcodnjhaaGreat
open Go.RowKit Go.Maps

/-! What is noted: a place and a number for each stay on the day. -/
def logR (day : Int) (r : Rec) (q : Nat) : List (Int × Int) := ((r.stays.take q).filter (onDay day)).map fun s => (s.p, r.id)
def logL (day : Int) (l : List Rec) : List (Int × Int) := l.flatMap fun r => logR day r r.stays.length
def whoAt (g : List (Int × Int)) (p : Int) : List Int := (g.filter fun x => decide (x.1 = p)).map (·.2)
theorem whoAt_snoc (g : List (Int × Int)) (p n q : Int) : whoAt (g ++ [(p, n)]) q = if q = p then whoAt g p ++ [n] else whoAt g q := by
  unfold whoAt
  rw [List.filter_append, List.map_append]
  by_cases h : q = p
  · subst h; rw [if_pos rfl]; simp
  · rw [if_neg h]
    have : ¬ p = q := fun e => h e.symm
    simp [this]
theorem logR_next (day : Int) (r : Rec) (q : Nat) (hq : q < r.stays.length) : logR day r (q + 1) = logR day r q ++ if onDay day r.stays[q] = true then [(r.stays[q].p, r.id)] else [] := by
  unfold logR
  rw [List.take_succ_eq_append_getElem hq, List.filter_append, List.map_append]
  congr 1
  by_cases h : onDay day r.stays[q] = true
  · rw [if_pos h, List.filter_cons_of_pos h]; rfl
  · rw [if_neg h, List.filter_cons_of_neg h]; rfl
theorem logR_zero (day : Int) (r : Rec) : logR day r 0 = [] := by simp [logR]
theorem logL_snoc (day : Int) (l : List Rec) (r : Rec) : logL day (l ++ [r]) = logL day l ++ logR day r r.stays.length := by simp [logL, List.flatMap_append]
theorem whoAt_mem (day p n : Int) (l : List Rec) : n ∈ whoAt (logL day l) p ↔ n ∈ idsAt day p l := by
  unfold whoAt logL logR idsAt
  simp only [List.mem_map, List.mem_filter, List.mem_flatMap, List.take_length]
  constructor
  · rintro ⟨⟨a, b⟩, ⟨⟨r, hr, s, ⟨hs, ho⟩, e⟩, hp⟩, rfl⟩
    simp only [Prod.mk.injEq] at e
    obtain ⟨rfl, rfl⟩ := e
    simp only [decide_eq_true_eq] at hp
    exact ⟨r, ⟨hr, List.any_eq_true.2 ⟨s, List.mem_filter.2 ⟨hs, by simpa using hp⟩, ho⟩⟩, rfl⟩
  · rintro ⟨r, ⟨hr, ha⟩, rfl⟩
    obtain ⟨s, hs, ho⟩ := List.any_eq_true.1 ha
    obtain ⟨hs1, hs2⟩ := List.mem_filter.1 hs
    exact ⟨(s.p, r.id), ⟨⟨r, hr, s, ⟨hs1, ho⟩, rfl⟩, by simpa using hs2⟩, rfl⟩
theorem whoAt_nil_iff (day p : Int) (l : List Rec) : whoAt (logL day l) p = [] ↔ idsAt day p l = [] := by
  rw [List.eq_nil_iff_forall_not_mem, List.eq_nil_iff_forall_not_mem]
  exact ⟨fun h n hn => h n ((whoAt_mem day p n l).2 hn), fun h n hn => h n ((whoAt_mem day p n l).1 hn)⟩

/-! A map of maps. -/
structure AtMap (B : Nat) (w : World) (m n : Nat) (G : Lit → Option Value) (H : Int → Prop) (F : Int → List Int) : Prop where
  map : MapFn w Tryz.prog 3 m n G
  none_ : ∀ p, ¬ H p → G (.int .i64 p) = none
  some_ : ∀ p, H p → ∃ b, G (.int .i64 p) = some (.map (some b)) ∧ MapFn w Tryz.prog 3 b (F p).length (seenG (F p)) ∧ B ≤ b
  far : ∀ p q b, p ≠ q → G (.int .i64 p) = some (.map (some b)) → G (.int .i64 q) ≠ some (.map (some b))
  keys : ∀ kl, (G kl).isSome = true → ∃ p, kl = .int .i64 p
  low : m < B
theorem AtMap.congr {B : Nat} {w : World} {m n : Nat} {G : Lit → Option Value} {H H' : Int → Prop} {F F' : Int → List Int} (h : AtMap B w m n G H F) (eH : ∀ p, H p ↔ H' p) (eF : ∀ p, F p = F' p) : AtMap B w m n G H' F' := by
  have h1 : H = H' := funext fun p => propext (eH p)
  have h2 : F = F' := funext eF
  rw [← h1, ← h2]; exact h
theorem AtMap.made {B : Nat} {w : World} {m : Nat} (h : MapFn w Tryz.prog 3 m 0 (fun _ => none)) (hm : m < B) : AtMap B w m 0 (fun _ => none) (fun _ => False) (fun _ => []) :=
  ⟨h, fun _ _ => rfl, fun _ h => h.elim, (fun _ _ _ _ h => by cases h), (fun _ h => by cases h), hm⟩
theorem AtMap.kept {B : Nat} {w w' : World} {m n : Nat} {G : Lit → Option Value} {H : Int → Prop} {F : Int → List Int} {row : Option Nat} (h : AtMap B w m n G H F) (hg : w.grownBy w' row) (hm : some m ≠ row) (hr : ∀ p b, G (.int .i64 p) = some (.map (some b)) → some b ≠ row) : AtMap B w' m n G H F :=
  ⟨h.map.kept hg hm, h.none_, fun p hp => by
    obtain ⟨b, h1, h2, h3⟩ := h.some_ p hp
    exact ⟨b, h1, h2.kept hg (hr p b h1), h3⟩, h.far, h.keys, h.low⟩
theorem AtMap.more {B : Nat} {w w' : World} {m n : Nat} {G : Lit → Option Value} {H : Int → Prop} {F : Int → List Int} (h : AtMap B w m n G H F) (hg : w.grownBy w' none) : AtMap B w' m n G H F := h.kept hg (by simp) (fun _ _ _ => by simp)
/-- An inner map is no block of cells and no iterator's; nor is the outer one. -/
theorem AtMap.turn {B : Nat} {w w' : World} {m n r : Nat} {G : Lit → Option Value} {H : Int → Prop} {F : Int → List Int} (h : AtMap B w m n G H F) (hg : w.grownBy w' (some r)) (hr : ∀ es c, w.heap[r]? ≠ some (.map es c)) : AtMap B w' m n G H F :=
  h.kept hg (fun e => by
    obtain ⟨es, c, hc⟩ := mapFn_heap h.map
    rw [Option.some.inj e] at hc
    exact hr es c hc) (fun p b hb e => by
    have hp : H p := Classical.byContradiction fun hn => by rw [h.none_ p hn] at hb; cases hb
    obtain ⟨b', h1, h2, _⟩ := h.some_ p hp
    rw [hb] at h1
    cases h1
    obtain ⟨es, c, hc⟩ := mapFn_heap h2
    rw [Option.some.inj e] at hc
    exact hr es c hc)
theorem AtMap.low_ne {B : Nat} {w : World} {m n c : Nat} {G : Lit → Option Value} {H : Int → Prop} {F : Int → List Int} (h : AtMap B w m n G H F) (hc : c < B) (_hcm : c ≠ m) : ∀ p b, G (.int .i64 p) = some (.map (some b)) → some b ≠ some c := fun p b hb e => by
  have hp : H p := Classical.byContradiction fun hn => by rw [h.none_ p hn] at hb; cases hb
  obtain ⟨b', h1, _, h3⟩ := h.some_ p hp
  rw [hb] at h1
  cases h1
  have := Option.some.inj e
  omega

/-- A place more, with nobody yet. -/
theorem AtMap.open_ {B : Nat} {w w1 w2 : World} {m n b : Nat} {G : Lit → Option Value} {H : Int → Prop} {F : Int → List Int} (h : AtMap B w m n G H F) (p : Int) (hp : ¬ H p) (hF : F p = []) (hb : b = w.heap.size) (hB : B ≤ w.heap.size)
    (hn : MapFn w1 Tryz.prog 3 b 0 (fun _ => none)) (hg1 : w.grownBy w1 none) (hput : MapFn w2 Tryz.prog 3 m (n + 1) (putFn G (.int .i64 p) (.map (some b)))) (hg2 : w1.grownBy w2 (some m)) :
    AtMap B w2 m (n + 1) (putFn G (.int .i64 p) (.map (some b))) (fun q => H q ∨ q = p) F := by
  have hmw : m < w.heap.size := h.map.lt
  have other : ∀ q, q ≠ p → putFn G (.int .i64 p) (.map (some b)) (.int .i64 q) = G (.int .i64 q) := fun q hq => by simp [putFn, hq]
  have same : putFn G (.int .i64 p) (.map (some b)) (.int .i64 p) = some (.map (some b)) := by simp [putFn]
  have lt : ∀ q c, G (.int .i64 q) = some (.map (some c)) → c < w.heap.size ∧ c ≠ m := fun q c hc => by
    have hq : H q := Classical.byContradiction fun hn => by rw [h.none_ q hn] at hc; cases hc
    obtain ⟨b', h1, h2, h3⟩ := h.some_ q hq
    rw [hc] at h1; cases h1
    have := h.low
    exact ⟨h2.lt, by omega⟩
  refine ⟨hput, fun q hq => ?_, fun q hq => ?_, fun q r c hqr hc hc2 => ?_, fun kl hk => ?_, h.low⟩
  · rw [other q fun e => hq (.inr e)]
    exact h.none_ q fun e => hq (.inl e)
  · by_cases hqp : q = p
    · subst hqp
      refine ⟨b, same, ?_, by omega⟩
      rw [hF, show seenG [] = fun _ => none by funext x; simp [seenG]]
      exact hn.kept hg2 (fun e => by have := Option.some.inj e; omega)
    · obtain ⟨c, h1, h2, h3⟩ := h.some_ q (hq.resolve_right hqp)
      refine ⟨c, (other q hqp).trans h1, (h2.kept hg1 (by simp)).kept hg2 (fun e => (lt q c h1).2 (Option.some.inj e)), h3⟩
  · by_cases hqp : q = p
    · subst hqp
      rw [same] at hc; cases hc
      rw [other r fun e => hqr e.symm] at hc2
      have := (lt r b hc2).1
      omega
    · rw [other q hqp] at hc
      by_cases hrp : r = p
      · subst hrp
        rw [same] at hc2; cases hc2
        have := (lt q b hc).1
        omega
      · rw [other r hrp] at hc2
        exact h.far q r c hqr hc hc2
  · by_cases hkl : kl = .int .i64 p
    · exact ⟨p, hkl⟩
    · have : putFn G (.int .i64 p) (.map (some b)) kl = G kl := by simp [putFn, hkl]
      rw [this] at hk; exact h.keys kl hk
/-- A number more at a place. -/
theorem AtMap.put {B : Nat} {w w1 : World} {m n b : Nat} {G : Lit → Option Value} {H : Int → Prop} {F : Int → List Int} (h : AtMap B w m n G H F) (p x : Int) (hp : H p) (hb : G (.int .i64 p) = some (.map (some b)))
    (hput : MapFn w1 Tryz.prog 3 b ((F p).length + 1) (putFn (seenG (F p)) (.int .i64 x) (.bool true))) (hg : w.grownBy w1 (some b)) : AtMap B w1 m n G H (fun q => if q = p then F p ++ [x] else F q) := by
  obtain ⟨b', h1, _, h3⟩ := h.some_ p hp
  rw [hb] at h1; cases h1
  have hlow := h.low
  refine ⟨h.map.kept hg (fun e => by have := Option.some.inj e; omega), h.none_, fun q hq => ?_, h.far, h.keys, h.low⟩
  by_cases hqp : q = p
  · subst hqp
    refine ⟨b, hb, ?_, h3⟩
    rw [if_pos rfl, List.length_append, ← seenG_put]
    exact hput
  · obtain ⟨c, g1, g2, g3⟩ := h.some_ q hq
    rw [if_neg hqp]
    refine ⟨c, g1, g2.kept hg (fun e => ?_), g3⟩
    cases e
    exact h.far p q b (fun e => hqp e.symm) hb g1

/-! Which record has a number. -/
open Classical in
noncomputable def byG (l : List RD) : Lit → Option Value := fun k => (l.find? fun x => decide (k = .int .i64 x.r.id)).map fun x => .agg #[.int .i64 x.r.id, .slice x.A x.r.names.length x.c, .int .u8 x.r.suf, .int .i64 x.r.lo, .int .i64 x.r.hi, .string x.r.num, .bool x.r.twin, .slice x.D x.r.stays.length x.d]
theorem byG_nil : byG [] = fun _ => none := rfl
open Classical in
theorem byG_snoc (l : List RD) (x : RD) (hn : x.r.id ∉ l.map fun y => y.r.id) : putFn (byG l) (.int .i64 x.r.id) (.agg #[.int .i64 x.r.id, .slice x.A x.r.names.length x.c, .int .u8 x.r.suf, .int .i64 x.r.lo, .int .i64 x.r.hi, .string x.r.num, .bool x.r.twin, .slice x.D x.r.stays.length x.d]) = byG (l ++ [x]) := by
  funext k
  unfold putFn byG
  rw [List.find?_append]
  by_cases h : k = .int .i64 x.r.id
  · rw [if_pos h]
    have : (l.find? fun y => decide (k = .int .i64 y.r.id)) = none := by
      rw [List.find?_eq_none]
      intro y hy e
      simp only [decide_eq_true_eq] at e
      rw [h] at e
      injection e with _ e
      exact hn (e ▸ List.mem_map_of_mem hy)
    rw [this]
    simp [h]
  · rw [if_neg h]
    have : ([x].find? fun y => decide (k = .int .i64 y.r.id)) = none := by simp [h]
    rw [this, Option.or_none]
open Classical in
theorem byG_get {l : List RD} (hn : (l.map fun y => y.r.id).Nodup) {x : RD} (hx : x ∈ l) : byG l (.int .i64 x.r.id) = some (.agg #[.int .i64 x.r.id, .slice x.A x.r.names.length x.c, .int .u8 x.r.suf, .int .i64 x.r.lo, .int .i64 x.r.hi, .string x.r.num, .bool x.r.twin, .slice x.D x.r.stays.length x.d]) := by
  unfold byG
  cases hf : l.find? fun y => decide ((Lit.int .i64 x.r.id : Lit) = .int .i64 y.r.id) with
  | none =>
    rw [List.find?_eq_none] at hf
    exact absurd (by simp) (hf x hx)
  | some y =>
    have h1 := List.find?_some hf
    have h2 := List.mem_of_find?_eq_some hf
    simp only [decide_eq_true_eq] at h1
    injection h1 with _ h1
    have : y = x := by
      obtain ⟨i, hi, rfl⟩ := List.getElem_of_mem h2
      obtain ⟨j, hj, rfl⟩ := List.getElem_of_mem hx
      have h3 : l.Pairwise fun a b => a.r.id ≠ b.r.id := List.pairwise_map.1 hn
      rw [List.pairwise_iff_getElem] at h3
      rcases Nat.lt_trichotomy i j with h | h | h
      · exact absurd h1.symm (h3 i j hi hj h)
      · subst h; rfl
      · exact absurd h1 (h3 j i hj hi h)
    rw [this]; rfl

theorem id_inj {l : List RD} (hn : (l.map fun y => y.r.id).Nodup) {x y : RD} (hx : x ∈ l) (hy : y ∈ l) (h1 : x.r.id = y.r.id) : x = y := by
  obtain ⟨i, hi, rfl⟩ := List.getElem_of_mem hx
  obtain ⟨j, hj, rfl⟩ := List.getElem_of_mem hy
  have h3 : l.Pairwise fun a b => a.r.id ≠ b.r.id := List.pairwise_map.1 hn
  rw [List.pairwise_iff_getElem] at h3
  rcases Nat.lt_trichotomy i j with h | h | h
  · exact absurd h1 (h3 i j hi hj h)
  · subst h; rfl
  · exact absurd h1.symm (h3 j i hj hi h)

/-! How many keys a map has. -/
theorem size_keys {H : Type} {w : World} {P : Program} {k : TypeId} {R : Value → Option (DataW H × List MemPlace)} {b n : Nat} {D : DataW H} (hown : w.ownsMap P k R b n D) (K : Keyed P k) : Maps.size D = (Go.intKeys D).length := by
  obtain ⟨es, hD, _⟩ := hown.entries K
  rw [hD]
  show es.length = (es.map _).length
  simp
theorem size_of {w : World} {b n : Nat} {D : DataW Value} {G : Lit → Option Value} (hown : w.ownsMap Tryz.prog 3 rawElem b n D) (hat : ∀ kl z, D.atKey kl z = gotAt (G kl) z) {ks : List Int} (hn : ks.Nodup) (hk : ∀ p, p ∈ ks ↔ (G (.int .i64 p)).isSome = true) : Maps.size D = ks.length := by
  rw [size_keys hown (int_keyed Tryz.underlying3)]
  have hks := intKeys_spec hown (int_keyed Tryz.underlying3) Tryz.underlying3
  exact ((List.perm_ext_iff_of_nodup hks.1 hn).2 fun p => by rw [hks.2, has_some hat, hk]).length_eq

end Go.Proofs.YtoinegfcodnjhaaGreat

namespace Go.Proofs.YtoinegfcodnjhaaGreat
open Go.RowKit Go.Maps

/-- The least key that is greater than one, of some; -1: there is none. -/
structure NextK (S : Int → Prop) (place nx : Int) : Prop where
  is : nx = -1 ∨ (place < nx ∧ S nx)
  least : ∀ p, S p → place < p → 0 ≤ nx ∧ nx ≤ p
theorem NextK.none_ {S : Int → Prop} (h : ∀ p, ¬ S p) (place : Int) : NextK S place (-1) := ⟨.inl rfl, fun p hp => absurd hp (h p)⟩
theorem NextK.congr {S S' : Int → Prop} {place nx : Int} (h : NextK S place nx) (e : ∀ p, S p ↔ S' p) : NextK S' place nx := by
  have : S = S' := funext fun p => propext (e p)
  rw [← this]; exact h
theorem NextK.take {S : Int → Prop} {place nx p : Int} (h : NextK S place nx) (h0 : 0 ≤ p) (hp : place < p) (hn : nx < 0 ∨ p < nx) : NextK (fun q => S q ∨ q = p) place p :=
  ⟨.inr ⟨hp, .inr rfl⟩, fun q hq hpq => by
    rcases hq with hq | rfl
    · have := h.least q hq hpq; omega
    · omega⟩
theorem NextK.skip {S : Int → Prop} {place nx p : Int} (h : NextK S place nx) (hs : place < p → 0 ≤ nx ∧ nx ≤ p) : NextK (fun q => S q ∨ q = p) place nx :=
  ⟨h.is.imp id fun ⟨h1, h2⟩ => ⟨h1, .inl h2⟩, fun q hq hpq => by
    rcases hq with hq | rfl
    · exact h.least q hq hpq
    · exact hs hpq⟩
theorem nextK_end {P : List Int} (hs : P.Pairwise (· < ·)) (h0 : ∀ p ∈ P, 0 ≤ p) {k : Nat} (hk : k < P.length) {nx : Int} (h : NextK (· ∈ P) (prevP P k) nx) : nx = P[k] := by
  have hs' := List.pairwise_iff_getElem.1 hs
  have hgt : ∀ j (hj : j < P.length), k ≤ j → prevP P k < P[j] := fun j hj hkj => by
    unfold prevP
    split
    · rename_i h1; exact hs' _ _ h1.2 hj (by omega)
    · have := h0 P[j] (List.getElem_mem hj); omega
  have hlt : ∀ j (hj : j < P.length), prevP P k < P[j] → k ≤ j := fun j hj hp => by
    rcases Nat.lt_or_ge j k with hjk | hjk
    · exfalso
      unfold prevP at hp
      rw [dif_pos ⟨by omega, by omega⟩] at hp
      rcases Nat.lt_or_ge j (k - 1) with h1 | h1
      · have := hs' j (k - 1) hj (by omega) h1; omega
      · have e : j = k - 1 := by omega
        subst e; omega
    · exact hjk
  have hle := h.least _ (List.getElem_mem hk) (hgt k hk (Nat.le_refl _))
  rcases h.is with e | ⟨h1, h2⟩
  · omega
  · obtain ⟨j, hj, e⟩ := List.getElem_of_mem h2
    have hkj := hlt j hj (by omega)
    rcases Nat.lt_or_ge k j with h3 | h3
    · have := hs' k j hk hj h3; omega
    · have e2 : j = k := by omega
      subst e2; exact e.symm

def seenK (G left : Lit → Bool) (q : Int) : Prop := G (.int .i64 q) = true ∧ left (.int .i64 q) = false
theorem seenK_start (G : Lit → Bool) (p : Int) : ¬ seenK G G p := fun ⟨h1, h2⟩ => by rw [h1] at h2; cases h2
theorem seenK_end {G left : Lit → Bool} (h : ∀ kl, left kl = false) (p : Int) : seenK G left p ↔ G (.int .i64 p) = true := ⟨fun e => e.1, fun e => ⟨e, h _⟩⟩
theorem seenK_next {G left : Lit → Bool} {p : Int} (hp : G (.int .i64 p) = true) (q : Int) : (seenK G left q ∨ q = p) ↔ seenK G (fun z => left z && !z.sameKey (.int .i64 p)) q := by
  unfold seenK
  dsimp only
  rw [sameKey_int]
  by_cases h : q = p
  · subst h; simp [hp]
  · simp [h]

/-! The lists at each place. -/
theorem idsAt_perm {day p : Int} {l l' : List Rec} (h : l.Perm l') : (idsAt day p l).Perm (idsAt day p l') := (h.filter _).map _
theorem idsAt_strict {day p : Int} {l : List Rec} (h : l.Pairwise fun x y => x.id < y.id) : (idsAt day p l).Pairwise (· < ·) := List.pairwise_map.2 (h.filter _)
theorem sortR_strict {l : List Rec} (hE : recsE l = 0) : (sortR l).Pairwise fun x y => x.id < y.id := strict_of (sortR_sorted l) (((sortR_perm l).map Rec.id).nodup_iff.2 (recs_nodup hE))
theorem strict_nodup {l : List Int} (h : l.Pairwise (· < ·)) : l.Nodup := h.imp fun h => by omega
theorem placesL_perm {day : Int} {l l' : List Rec} (h : l.Perm l') (p : Int) : p ∈ placesL day l ↔ p ∈ placesL day l' := by
  rw [placesL_mem, placesL_mem]
  have e := (idsAt_perm (day := day) (p := p) h).length_eq
  constructor
  · intro h1 h2; rw [h2] at e; exact h1 (List.eq_nil_of_length_eq_zero (by simpa using e))
  · intro h1 h2; rw [h2] at e; exact h1 (List.eq_nil_of_length_eq_zero (by simpa using e.symm))
theorem placesL_ok {day : Int} {l : List Rec} (hE : recsE l = 0) : ∀ p ∈ placesL day (sortR l), 0 ≤ p ∧ p ≤ 99999 := fun p hp => by
  obtain ⟨s, hs, _, rfl⟩ := (placesL_on day p _).1 hp
  obtain ⟨r, hr, h1⟩ := List.mem_flatMap.1 hs
  obtain ⟨k, hk, rfl⟩ := List.getElem_of_mem h1
  have h2 := (staysB_at (recB_parts ((recB_of_zero hE).1 r hr)).2.2.2.2.2 hk).1
  simp only [inB, Bool.and_eq_true, decide_eq_true_eq] at h2
  exact h2
theorem Recs.of_mem {w : World} {B : Nat} {A : Option Addr} {l : List RD} (h : Recs w B A l) {x : RD} (hx : x ∈ l) : RecAt w B x.A x.D x.r ∧ x.r.names.length ≤ x.c := by
  obtain ⟨i, hi, rfl⟩ := List.getElem_of_mem hx
  obtain ⟨_, _, _, _, _, h1, h2⟩ := h i hi
  exact ⟨h1, h2⟩
theorem whoAt_le (g : List (Int × Int)) (p : Int) : (whoAt g p).length ≤ g.length := by
  unfold whoAt; rw [List.length_map]; exact List.length_filter_le _ _
theorem logR_le (day : Int) (r : Rec) (q : Nat) : (logR day r q).length ≤ r.stays.length := by
  unfold logR
  rw [List.length_map]
  exact Nat.le_trans (List.length_filter_le _ _) (by simp; omega)
theorem logL_le (day : Int) : ∀ l : List Rec, (∀ r ∈ l, r.stays.length ≤ 6) → (logL day l).length ≤ 6 * l.length
  | [], _ => by simp [logL]
  | r :: l, h => by
    have ih := logL_le day l fun x hx => h x (List.mem_cons_of_mem _ hx)
    have h1 := logR_le day r r.stays.length
    have h2 := h r List.mem_cons_self
    have e : logL day (r :: l) = logR day r r.stays.length ++ logL day l := by simp [logL]
    rw [e, List.length_append, List.length_cons]
    omega
/-- Whoever is surely one person has names that are like. -/
theorem one_names {u : Rul} {r s : Rec} (h : (matF u r s).one = 2) : 2 ≤ (matF u r s).names := by
  unfold matF at h ⊢
  dsimp only at h ⊢
  unfold oneF at h
  split at h
  · omega
  · split at h
    · rename_i h2; omega
    · omega

end Go.Proofs.YtoinegfcodnjhaaGreat

namespace Go.Proofs.YtoinegfcodnjhaaGreat
open Go.ChangeShapes Go.WideShapes Go.ChangeAt Go.RowKit Go.Deep

section
variable {H : Type} {enc : TypeId × Value → H} {w : World} {base : Nat} {spare : Nat → Bool} {held : Bool}

set_option maxRecDepth 100000 in
theorem recs_of_trod {fuel : Nat} {v : Value} {x : DataW H × List MemPlace} (h : DataW.trod enc Tryz.prog w base spare held fuel 24 [v] = some x) :
    ∃ A c l, v = .slice A (List.length l) c ∧ Recs w w.heap.size A l ∧ (∀ z ∈ l, RecWf z.r) ∧ l.length ≤ maxLen := by
  have hC : Tryz.prog.cellsOf 47 = 8 := by kernel_rfl
  rcases open_slice Tryz.underlying24 h with ⟨hc, _⟩ | ⟨a, len, cap, m, n, Dx, Pl, hc, _, hl, hm, hmm, _, hcell⟩
  · simp only [List.cons.injEq, and_true] at hc
    exact ⟨none, 0, [], by simpa using hc, fun k hk => by simp at hk, fun z hz => by simp at hz, by simp [maxLen]⟩
  · simp only [List.cons.injEq, and_true] at hc
    have hlm : len ≤ m := by rw [hmm]; split <;> omega
    have each : ∀ i, i < len → ∃ z : RD, (∀ j, j < 8 → w.cell? (a.add (i * 8 + j)) = (#[.int .i64 z.r.id, .slice z.A z.r.names.length z.c, .int .u8 z.r.suf, .int .i64 z.r.lo, .int .i64 z.r.hi, .string z.r.num, .bool z.r.twin, .slice z.D z.r.stays.length z.d] : Array Value)[j]?) ∧ RecAt w w.heap.size z.A z.D z.r ∧ RecWf z.r ∧ z.r.names.length ≤ z.c := fun i hi => by
      obtain ⟨cs', h1, h2⟩ := hcell i (by omega)
      rw [hC] at h1
      obtain ⟨_, hlen, hat⟩ := World.cells?_some h1
      obtain ⟨r, A, c, D, d, rfl, hr, hwf, hcap⟩ := rec_of_trod h2
      refine ⟨⟨r, A, c, D, d⟩, fun j hj => ?_, hr, hwf, hcap⟩
      rw [← Go.Addr.add_add, hat j (by omega)]
      simp
    obtain ⟨S, hS⟩ := choose_lt each
    refine ⟨some a, cap, (List.range len).map S, by rw [hc]; simp, fun k hk => ?_, fun z hz => ?_, by simp; omega⟩
    · simp only [List.length_map, List.length_range] at hk
      obtain ⟨h1, h2, h3, h4⟩ := hS k hk
      obtain ⟨g1, _, _, _⟩ := hS 0 (by omega)
      have h00 := g1 0 (by omega)
      rw [show 0 * 8 + 0 = 0 from rfl, Addr.add_zero'] at h00
      have hp := plain_of_cell h00
      have hlt := block_lt_of_cell h00
      refine ⟨a.block, a.off, by rw [← hp], hlt, fun i hi => ?_, by simpa using h2, by simpa using h4⟩
      have := h1 i hi
      rw [hp, add_plain] at this
      simpa [Nat.add_assoc] using this
    · obtain ⟨k, hk, rfl⟩ := List.mem_map.1 hz
      exact (hS k (by simpa using hk)).2.2.1
end

end Go.Proofs.YtoinegfcodnjhaaGreat
