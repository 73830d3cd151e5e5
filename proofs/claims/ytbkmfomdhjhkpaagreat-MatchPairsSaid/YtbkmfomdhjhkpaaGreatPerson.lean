/- A record at work: its stays by their places. -/
import Derived.Test.YtbkmfomdhjhkpaaGreatMapFn
import Derived.Test.YtbkmfomdhjhkpaaGreatTwin
import Derived.Test.YtbkmfomdhjhkpaaGreatChk
import Derived.Test.YtbkmfomdhjhkpaaGreatPlaces
import Derived.StillTailTactics
import Derived.Deep.AppendLies
import Derived.Deep.RegionHeld3
import Derived.Maps.AppendAt
namespace Go.Proofs.YtbkmfomdhjhkpaaGreat
open Go.RowKit Go.Maps

def nilS : Value := .slice none 0 0
def atP (G : Lit → Option Value) (p : Int) : Value := (G (.int .i64 p)).getD nilS
def ofP (l : List Stay) (p : Int) : List Stay := l.filter fun s => decide (s.p = p)

/-- The map m gives each place a row of the stays there. -/
structure Groups (w : World) (base m : Nat) (l : List Stay) (n : Nat) (G : Lit → Option Value) : Prop where
  map : MapFn w Tryz.prog 3 m n G
  row : ∀ p, w.ownsRow base 75 3 (atP G p) (ofP l p).length (stayCells (ofP l p))
  far : ∀ p q, p ≠ q → (atP G p).ownBlock = none ∨ (atP G p).ownBlock ≠ (atP G q).ownBlock
  low : m < base

/-- The map m gives each place the stays there. -/
def ByPlace (w : World) (m : Nat) (l : List Stay) : Prop := ∃ G n base, n ≤ 6 ∧ Groups w base m l n G

theorem atP_put_same (G : Lit → Option Value) (p : Int) (v : Value) : atP (putFn G (.int .i64 p) v) p = v := by simp [atP, putFn]
theorem atP_put_other (G : Lit → Option Value) {p q : Int} (h : q ≠ p) (v : Value) : atP (putFn G (.int .i64 p) v) q = atP G q := by simp [atP, putFn, h]
theorem ofP_snoc_same (l : List Stay) (s : Stay) : ofP (l ++ [s]) s.p = ofP l s.p ++ [s] := by simp [ofP]
theorem ofP_snoc_other (l : List Stay) (s : Stay) {q : Int} (h : q ≠ s.p) : ofP (l ++ [s]) q = ofP l q := by simp [ofP]; exact fun e => h e.symm
theorem stayCells_snoc (l : List Stay) (s : Stay) : stayCells (l ++ [s]) = stayCells l ++ [.int .i64 s.p, .int .i64 s.f, .int .i64 s.t] := by simp [stayCells]
theorem ofP_length (l : List Stay) (p : Int) : (ofP l p).length ≤ l.length := List.length_filter_le _ _

theorem Groups.made (w : World) {base : Nat} (hb : w.heap.size < base) : Groups (w.alloc (.map #[] 0)) base w.heap.size [] 0 (fun _ => none) :=
  ⟨MapFn.made _ _ _, fun _ => World.ownsRow_nil _ _ _ _, fun _ _ _ => .inl rfl, hb⟩

theorem Groups.keep {w w' : World} {base m n : Nat} {l : List Stay} {G : Lit → Option Value} (h : Groups w base m l n G) (hg : w.grownBy w' none) : Groups w' base m l n G :=
  ⟨h.map.kept hg (by simp), fun p => (h.row p).kept hg (by cases (atP G p).ownBlock <;> simp), h.far, h.low⟩

theorem Groups.low_set {w : World} {base m n : Nat} {l : List Stay} {G : Lit → Option Value} (h : Groups w base m l n G) {a : Addr} (ha : a.block < base) (hm : m ≠ a.block) (v : Value) : Groups (w.setCell a v) base m l n G :=
  ⟨h.map.setCell hm v, fun p => ownsRow_setCell_below (h.row p) ha v, h.far, h.low⟩

theorem Groups.step {w w1 w2 : World} {base m n : Nat} {l : List Stay} {G : Lit → Option Value} (h : Groups w base m l n G) (s : Stay) {v' : Value} (hg : w.grownBy w1 (atP G s.p).ownBlock)
    (hown : w1.ownsRow base 75 3 v' ((ofP l s.p).length + 1) (stayCells (ofP l s.p) ++ [.int .i64 s.p, .int .i64 s.f, .int .i64 s.t]))
    (hloc : v'.ownBlock = (atP G s.p).ownBlock ∨ ∃ g, v'.ownBlock = some g ∧ w.heap.size ≤ g)
    (hput : MapFn w2 Tryz.prog 3 m (n + 1) (putFn G (.int .i64 s.p) v')) (hg2 : w1.grownBy w2 (some m)) : Groups w2 base m (l ++ [s]) (n + 1) (putFn G (.int .i64 s.p) v') := by
  have low : ∀ {W : World} {v : Value} {k : Nat} {xs : List Value}, W.ownsRow base 75 3 v k xs → v.ownBlock = none ∨ v.ownBlock ≠ some m := fun {W v k xs} ho => by
    cases hv : v.ownBlock with
    | none => exact .inl rfl
    | some g =>
      refine .inr fun e => ?_
      have := (ho.lt g hv).1
      have := h.low
      cases e
      omega
  have old : ∀ p, p ≠ s.p → (atP G p).ownBlock = none ∨ (atP G p).ownBlock ≠ v'.ownBlock := fun p hp => by
    rcases hloc with h1 | ⟨g, h1, h2⟩
    · rw [h1]; exact h.far p s.p hp
    · cases hx : (atP G p).ownBlock with
      | none => exact .inl rfl
      | some gx =>
        have := ((h.row p).lt gx hx).2
        refine .inr fun e => ?_
        rw [h1] at e
        cases e
        omega
  refine ⟨hput, fun p => ?_, fun p q hpq => ?_, h.low⟩
  · by_cases hp : p = s.p
    · subst hp
      rw [atP_put_same, ofP_snoc_same, stayCells_snoc, List.length_append]
      exact hown.kept hg2 (low hown)
    · rw [atP_put_other G hp, ofP_snoc_other l s hp]
      have h1 := (h.row p).kept hg (h.far p s.p hp)
      exact h1.kept hg2 (low h1)
  · by_cases hp : p = s.p
    · subst hp
      have hq : q ≠ s.p := fun e => hpq e.symm
      rw [atP_put_same, atP_put_other G hq]
      rcases old q hq with h1 | h1
      · cases hv : v'.ownBlock with
        | none => exact .inl rfl
        | some g => rw [h1]; exact .inr (by simp)
      · exact .inr fun e => h1 e.symm
    · by_cases hq : q = s.p
      · subst hq
        rw [atP_put_same, atP_put_other G hp]
        exact old p hp
      · rw [atP_put_other G hp, atP_put_other G hq]
        exact h.far p q hpq

theorem Groups.drew {w : World} {base m n : Nat} {l : List Stay} {G : Lit → Option Value} (h : Groups w base m l n G) : Groups w.drew base m l n G := ⟨h.map.drew, h.row, h.far, h.low⟩
theorem Blk.drew {w : World} {g : Nat} {cs : Array Value} {t : TypeId} (h : Blk w g cs t) : Blk w.drew g cs t := h
theorem Blk.grown {w w' : World} {g : Nat} {cs : Array Value} {t : TypeId} {row : Option Nat} (h : Blk w g cs t) (hg : w.grownBy w' row) (hne : some g ≠ row) : Blk w' g cs t := (hg.block g h.lt hne).trans h
theorem stayZero (w : World) : (zeroValue 45).run Tryz.prog w = .ok nilS w := by kernel_rfl
theorem personZero (w : World) : (zeroValue 83).run Tryz.prog w = .ok (.agg #[.int .i64 0, .slice none 0 0, .int .u8 0, .int .i64 0, .int .i64 0, .string ByteArray.empty, .bool false, .slice none 0 0, .map none]) w := by kernel_rfl

set_option maxRecDepth 100000 in
set_option maxHeartbeats 2000000 in
theorem newPerson_any (r : Rec) (A D : Option Addr) (c d : Nat) (w : World) (hst : Stays w w.heap.size D r.stays) (hs : staysB r.stays = true) :
    Calls Tryz.prog 52 #[.agg #[.int .i64 r.id, .slice A r.names.length c, .int .u8 r.suf, .int .i64 r.lo, .int .i64 r.hi, .string r.num, .bool r.twin, .slice D r.stays.length d]] w fun e w' => ∃ m, e = .returned (.agg #[.int .i64 r.id, .slice A r.names.length c, .int .u8 r.suf, .int .i64 r.lo, .int .i64 r.hi, .string r.num, .bool r.twin, .slice D r.stays.length d, .map (some m)]) ∧ w.heap.size ≤ m ∧ Below w.heap.size w w' ∧ ByPlace w' m r.stays := by
  have hmm := @run_makeMap Tryz.prog
  have hll : r.stays.length ≤ 6 := by simp only [staysB, Bool.and_eq_true, decide_eq_true_eq] at hs; exact hs.1
  obtain ⟨j0, ki, kz0, kz1, kz2⟩ := info_parts stayInfo
  go_enter Tryz.func52, Tryz.ntmps52
  go_wp2_with fail
  go_loopw [12] (fun ii wr => ∃ i : Nat, i ≤ r.stays.length ∧ ii = .int .i64 i ∧ ∃ G n, Hid (n ≤ i ∧ Groups wr (w.heap.size + 1 + 1 + 1 + 1) (w.heap.size + 1 + 1) (r.stays.take i) n G ∧ Blk wr w.heap.size #[.int .i64 r.id, .slice A r.names.length c, .int .u8 r.suf, .int .i64 r.lo, .int .i64 r.hi, .string r.num, .bool r.twin, .slice D r.stays.length d] 47 ∧ Blk wr (w.heap.size + 1) #[.int .i64 0, .slice none 0 0, .int .u8 0, .int .i64 0, .int .i64 0, .string ByteArray.empty, .bool false, .slice none 0 0, .map none] 83 ∧ Blk wr (w.heap.size + 1 + 1 + 1) #[.int .i64 r.id, .slice A r.names.length c, .int .u8 r.suf, .int .i64 r.lo, .int .i64 r.hi, .string r.num, .bool r.twin, .slice D r.stays.length d, .map (some (w.heap.size + 1 + 1))] 83 ∧ Below w.heap.size w wr)) (fun ii _ => r.stays.length - (intOf ii).toNat)
  case atStart =>
    have g0 := ((Groups.made ((w.alloc (.cells #[.int .i64 r.id, .slice A r.names.length c, .int .u8 r.suf, .int .i64 r.lo, .int .i64 r.hi, .string r.num, .bool r.twin, .slice D r.stays.length d] 47)).alloc (.cells #[.int .i64 0, .slice none 0 0, .int .u8 0, .int .i64 0, .int .i64 0, .string ByteArray.empty, .bool false, .slice none 0 0, .map none] 83)) (base := w.heap.size + 1 + 1 + 1 + 1) (by simp)).keep (World.grownBy_alloc _ (.cells #[.int .i64 r.id, .slice A r.names.length c, .int .u8 r.suf, .int .i64 r.lo, .int .i64 r.hi, .string r.num, .bool r.twin, .slice D r.stays.length d, .map (some (w.heap.size + 1 + 1))] 83) none))
    have b0 := (((Blk.new w #[.int .i64 r.id, .slice A r.names.length c, .int .u8 r.suf, .int .i64 r.lo, .int .i64 r.hi, .string r.num, .bool r.twin, .slice D r.stays.length d] 47).alloc (.cells #[.int .i64 0, .slice none 0 0, .int .u8 0, .int .i64 0, .int .i64 0, .string ByteArray.empty, .bool false, .slice none 0 0, .map none] 83)).alloc (.map #[] 0)).alloc (.cells #[.int .i64 r.id, .slice A r.names.length c, .int .u8 r.suf, .int .i64 r.lo, .int .i64 r.hi, .string r.num, .bool r.twin, .slice D r.stays.length d, .map (some (w.heap.size + 1 + 1))] 83)
    have b1 := ((Blk.new (w.alloc (.cells #[.int .i64 r.id, .slice A r.names.length c, .int .u8 r.suf, .int .i64 r.lo, .int .i64 r.hi, .string r.num, .bool r.twin, .slice D r.stays.length d] 47)) #[.int .i64 0, .slice none 0 0, .int .u8 0, .int .i64 0, .int .i64 0, .string ByteArray.empty, .bool false, .slice none 0 0, .map none] 83).alloc (.map #[] 0)).alloc (.cells #[.int .i64 r.id, .slice A r.names.length c, .int .u8 r.suf, .int .i64 r.lo, .int .i64 r.hi, .string r.num, .bool r.twin, .slice D r.stays.length d, .map (some (w.heap.size + 1 + 1))] 83)
    have b3 := Blk.new (((w.alloc (.cells #[.int .i64 r.id, .slice A r.names.length c, .int .u8 r.suf, .int .i64 r.lo, .int .i64 r.hi, .string r.num, .bool r.twin, .slice D r.stays.length d] 47)).alloc (.cells #[.int .i64 0, .slice none 0 0, .int .u8 0, .int .i64 0, .int .i64 0, .string ByteArray.empty, .bool false, .slice none 0 0, .map none] 83)).alloc (.map #[] 0)) #[.int .i64 r.id, .slice A r.names.length c, .int .u8 r.suf, .int .i64 r.lo, .int .i64 r.hi, .string r.num, .bool r.twin, .slice D r.stays.length d, .map (some (w.heap.size + 1 + 1))] 83
    simp only [World.size_alloc] at g0 b0 b1 b3
    exact ⟨0, Nat.zero_le _, rfl, _, 0, Lib.hid ⟨Nat.le_refl _, g0, b0, b1, b3, ((((Below.refl _ _).alloc (Nat.le_refl _) _).alloc (by simp) _).alloc (by simp; omega) _).alloc (by simp; omega) _⟩⟩
  case round =>
    obtain ⟨i, hi, rfl, G, n, hR⟩ := hrel
    obtain ⟨hn, hG, B0, B1, B3, hbel⟩ := hR.out
    clear hR
    have k0 := B0.cell
    have k1 := B1.cell
    have k3 := B3.cell
    have f1 := B1.free
    by_cases hlt : i < r.stays.length
    · have hil : (i : Int) < (r.stays.length : Int) := by omega
      obtain ⟨b, off, rfl, hb, c1, c2, c3⟩ := (hst.below hbel) i hlt
      have bs := staysB_at hs hlt
      generalize hsi : r.stays[i] = s at c1 c2 c3 bs
      go_upto_region 5 with fail
      have G0 := (hG.keep (World.grownBy_alloc wr (.cells #[.int .i64 s.p, .int .i64 s.f, .int .i64 s.t] 75) none)).drew
      have C0 := (B0.alloc (.cells #[.int .i64 s.p, .int .i64 s.f, .int .i64 s.t] 75)).drew
      have C1 := (B1.alloc (.cells #[.int .i64 s.p, .int .i64 s.f, .int .i64 s.t] 75)).drew
      have C3 := (B3.alloc (.cells #[.int .i64 s.p, .int .i64 s.f, .int .i64 s.t] 75)).drew
      have CS := (Blk.new wr #[.int .i64 s.p, .int .i64 s.f, .int .i64 s.t] 75).drew
      have hb0 := (hbel.alloc hbel.size (.cells #[.int .i64 s.p, .int .i64 s.f, .int .i64 s.t] 75)).drew
      have hsz : w.heap.size + 1 + 1 + 1 + 1 ≤ (wr.alloc (.cells #[.int .i64 s.p, .int .i64 s.f, .int .i64 s.t] 75)).drew.heap.size := by
        have := B3.lt
        show _ ≤ (wr.alloc _).heap.size
        rw [World.size_alloc]
        omega
      have hvlt := (hG.row s.p).lt
      have hs4 : w.heap.size + 1 + 1 + 1 + 1 ≤ wr.heap.size := B3.lt
      have hlo := hbel.size
      clear hG B0 B1 B3 k0 k1 k3 f1 hbel c1 c2 c3
      generalize hW : wr.alloc (.cells #[.int .i64 s.p, .int .i64 s.f, .int .i64 s.t] 75) = W at *
      have wfp : (Lit.int .i64 s.p).wf = true := WalkArith.wf_i64 (by have := bs.1; simp [inB] at this; omega)
      have hbA := hb0.alloc (by show _ ≤ W.heap.size; exact hb0.size) (.cells #[.int .i64 s.p, .int .i64 s.f, .int .i64 s.t] 75)
      have look := G0.map.look (int_keyed Tryz.underlying3) Tryz.underlying81 (stayZero _) (keyOf_int_mk Tryz.underlying3 wfp)
      have look1 := (G0.keep (World.grownBy_alloc W.drew (.cells #[.int .i64 s.p, .int .i64 s.f, .int .i64 s.t] 75) none)).map.look (int_keyed Tryz.underlying3) Tryz.underlying81 (stayZero _) (keyOf_int_mk Tryz.underlying3 wfp)
      have G1 := G0.keep (World.grownBy_alloc W.drew (.cells #[.int .i64 s.p, .int .i64 s.f, .int .i64 s.t] 75) none)
      change _ = Result.ok (atP G s.p) _ at look
      change _ = Result.ok (atP G s.p) _ at look1
      have k0 := C0.cell
      have k3 := C3.cell
      have ks := CS.cell
      have news : ∀ j u, [Value.int .i64 s.p, .int .i64 s.f, .int .i64 s.t][j]? = some u → (W.drew.alloc (.cells #[.int .i64 s.p, .int .i64 s.f, .int .i64 s.t] 75)).cell? ((⟨W.heap.size, 0, none⟩ : Addr).add j) = some u := fun j u hj => by
        have := (Blk.new W.drew #[.int .i64 s.p, .int .i64 s.f, .int .i64 s.t] 75).cell j
        rw [show ((⟨W.heap.size, 0, none⟩ : Addr).add j) = ⟨W.heap.size, j, none⟩ by rw [Addr.add]; simp; exact fun h => h.symm]
        refine this.trans ?_
        rw [← hj]; simp
      have hll2 : (ofP (r.stays.take i) s.p).length ≤ 6 := by have := ofP_length (r.stays.take i) s.p; simp at this; omega
      generalize hv : atP G s.p = v at look look1 hvlt
      have hsz2 : w.heap.size + 1 + 1 + 1 + 1 ≤ W.heap.size := hsz
      have hs3 : wr.heap.size < W.heap.size := by have := CS.lt; exact this
      have hs4 : w.heap.size + 1 + 1 + 1 + 1 ≤ wr.heap.size := hs4
      have look2 : (Instr.lookup 81 (.map (some (w.heap.size + 1 + 1))) (.int .i64 s.p) false).run Tryz.prog (W.alloc (.cells #[.int .i64 s.p, .int .i64 s.f, .int .i64 s.t] 75)).drew = Result.ok v (W.alloc (.cells #[.int .i64 s.p, .int .i64 s.f, .int .i64 s.t] 75)).drew := look1
      have far : ∀ x, x < w.heap.size + 1 + 1 + 1 + 1 ∨ x = wr.heap.size → some x ≠ v.ownBlock := fun x hx e => by have := hvlt x e.symm; omega
      go_region_held3 (fun W' => (∀ i, W'.cell? ⟨w.heap.size + 1 + 1 + 1, i, none⟩ = (#[.int .i64 r.id, .slice A r.names.length c, .int .u8 r.suf, .int .i64 r.lo, .int .i64 r.hi, .string r.num, .bool r.twin, .slice (some ⟨b, off, none⟩) r.stays.length d, .map (some (w.heap.size + 1 + 1))] : Array Value)[i]?) ∧ (∀ i, W'.cell? ⟨wr.heap.size, i, none⟩ = (#[.int .i64 s.p, .int .i64 s.f, .int .i64 s.t] : Array Value)[i]?)) (first | exact ⟨C3.cell, CS.cell⟩ | exact ⟨(C3.drew.alloc _).cell, (CS.drew.alloc _).cell⟩ | exact ⟨X3.cell, XS.cell⟩ | exact ⟨Y3.cell, YS.cell⟩)
        (first
          | (refine step_append_lies _ rfl _ _ 45 rfl (w.heap.size + 1 + 1 + 1 + 1) 75 j0 _ 3 24 Tryz.underlying45 ki kz0 kz1 kz2 rfl (by decide) v (ofP (r.stays.take i) s.p).length (stayCells (ofP (r.stays.take i) s.p)) rfl (hv ▸ G1.row s.p) ⟨W.heap.size, 0, none⟩ 1 1 [.int .i64 s.p, .int .i64 s.f, .int .i64 s.t] rfl rfl news (by simp [Value.oneCell']) (by decide) (by unfold maxLen; omega) (by omega) (by simp; omega) _ rfl ?_
             intro g cap w1 hown hgrow hat hlt2
             have X0 := (C0.alloc (.cells #[.int .i64 s.p, .int .i64 s.f, .int .i64 s.t] 75)).grown hgrow (far _ (.inl (by omega)))
             have X1 := (C1.alloc (.cells #[.int .i64 s.p, .int .i64 s.f, .int .i64 s.t] 75)).grown hgrow (far _ (.inl (by omega)))
             have X3 := (C3.alloc (.cells #[.int .i64 s.p, .int .i64 s.f, .int .i64 s.t] 75)).grown hgrow (far _ (.inl (by omega)))
             have XS := (CS.alloc (.cells #[.int .i64 s.p, .int .i64 s.f, .int .i64 s.t] 75)).grown hgrow (far _ (.inr rfl))
             obtain ⟨w3, hrun3, hput, hg3⟩ := (G1.map.kept hgrow (far _ (.inl (by omega)))).put (int_keyed Tryz.underlying3) Tryz.underlying81 (by unfold maxLen; omega) (keyOf_int_mk Tryz.underlying3 wfp) (val := .slice (some ⟨g, 0, none⟩) ((ofP (r.stays.take i) s.p).length + 1) cap)
             have Y0 := X0.grown hg3 (fun e => by have := Option.some.inj e; omega)
             have Y1 := X1.grown hg3 (fun e => by have := Option.some.inj e; omega)
             have Y3 := X3.grown hg3 (fun e => by have := Option.some.inj e; omega)
             have YS := XS.grown hg3 (fun e => by have := Option.some.inj e; omega)
             have Gf := G0.step s (w1 := w1) (by rw [hv]; exact (World.grownBy_alloc W.drew (.cells #[.int .i64 s.p, .int .i64 s.f, .int .i64 s.t] 75) none).but v.ownBlock |>.andThen hgrow (fun _ h => .inr h)) hown (hat.elim (fun h => .inl (by rw [hv, h]; rfl)) (fun h => .inr ⟨g, rfl, by rw [h]; show W.heap.size ≤ (W.alloc _).heap.size; rw [World.size_alloc]; omega⟩)) hput hg3
             have hb3 : Below w.heap.size w w3 := (hbA.grown hgrow hbA.size (fun k e => by have := hvlt k e; omega)).grown hg3 (Nat.le_trans hbA.size hgrow.size) (fun k e => by cases e; omega)))
      all_goals
        go_wp2_with fail
        go_roundw
      all_goals first
        | exact ⟨i + 1, by omega, by go_num, _, n + 1, Lib.hid ⟨by omega, by rw [List.take_succ_eq_append_getElem hlt, hsi]; exact Gf, Y0, Y1, Y3, hb3⟩⟩
        | (simp [intOf]; omega)
    · have hil : ¬ (i : Int) < (r.stays.length : Int) := by omega
      have hall : r.stays.take i = r.stays := List.take_of_length_le (by omega)
      go_wp2_with fail
      have R1 := ((((((((B1.set 0 (.int .i64 r.id)).set 1 (.slice A r.names.length c)).set 2 (.int .u8 r.suf)).set 3 (.int .i64 r.lo)).set 4 (.int .i64 r.hi)).set 5 (.string r.num)).set 6 (.bool r.twin)).set 7 (.slice D r.stays.length d)).set 8 (.map (some (w.heap.size + 1 + 1)))
      have hlo : w.heap.size + 1 < w.heap.size + 1 + 1 + 1 + 1 := by omega
      have hne : w.heap.size + 1 + 1 ≠ w.heap.size + 1 := by omega
      have GR := ((((((((hG.low_set (a := ⟨w.heap.size + 1, 0, none⟩) hlo hne (.int .i64 r.id)).low_set (a := ⟨w.heap.size + 1, 1, none⟩) hlo hne (.slice A r.names.length c)).low_set (a := ⟨w.heap.size + 1, 2, none⟩) hlo hne (.int .u8 r.suf)).low_set (a := ⟨w.heap.size + 1, 3, none⟩) hlo hne (.int .i64 r.lo)).low_set (a := ⟨w.heap.size + 1, 4, none⟩) hlo hne (.int .i64 r.hi)).low_set (a := ⟨w.heap.size + 1, 5, none⟩) hlo hne (.string r.num)).low_set (a := ⟨w.heap.size + 1, 6, none⟩) hlo hne (.bool r.twin)).low_set (a := ⟨w.heap.size + 1, 7, none⟩) hlo hne (.slice D r.stays.length d)).low_set (a := ⟨w.heap.size + 1, 8, none⟩) hlo hne (.map (some (w.heap.size + 1 + 1)))
      have hb9 := ((((((((hbel.setCell (p := ⟨w.heap.size + 1, 0, none⟩) (by simp) (.int .i64 r.id)).setCell (p := ⟨w.heap.size + 1, 1, none⟩) (by simp) (.slice A r.names.length c)).setCell (p := ⟨w.heap.size + 1, 2, none⟩) (by simp) (.int .u8 r.suf)).setCell (p := ⟨w.heap.size + 1, 3, none⟩) (by simp) (.int .i64 r.lo)).setCell (p := ⟨w.heap.size + 1, 4, none⟩) (by simp) (.int .i64 r.hi)).setCell (p := ⟨w.heap.size + 1, 5, none⟩) (by simp) (.string r.num)).setCell (p := ⟨w.heap.size + 1, 6, none⟩) (by simp) (.bool r.twin)).setCell (p := ⟨w.heap.size + 1, 7, none⟩) (by simp) (.slice D r.stays.length d)).setCell (p := ⟨w.heap.size + 1, 8, none⟩) (by simp) (.map (some (w.heap.size + 1 + 1)))
      have hrc := R1.cell
      refine bodyPost_ret (v := .agg #[.int .i64 r.id, .slice A r.names.length c, .int .u8 r.suf, .int .i64 r.lo, .int .i64 r.hi, .string r.num, .bool r.twin, .slice D r.stays.length d, .map (some (w.heap.size + 1 + 1))]) ?hres rfl ?hpost
      case hres => simp [results, Tryz.results52, go_sem, hrc]
      case hpost => exact ⟨w.heap.size + 1 + 1, rfl, by omega, hb9, G, n, _, by omega, hall ▸ GR⟩

end Go.Proofs.YtbkmfomdhjhkpaaGreat
