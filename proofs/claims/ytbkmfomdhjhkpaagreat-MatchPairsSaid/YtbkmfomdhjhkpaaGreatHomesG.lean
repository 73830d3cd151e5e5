/- The map from places to numbers that the program's Homes fills; what is kept while it is filled. -/
import Derived.Test.YtbkmfomdhjhkpaaGreatHomes
namespace Go.Proofs.YtbkmfomdhjhkpaaGreat
open Go.RowKit Go.Maps

structure GroupsI (w : World) (base m n : Nat) (G : Lit → Option Value) (F : Int → List Int) : Prop where
  map : MapFn w Tryz.prog 3 m n G
  row : ∀ p, w.ownsRow base 3 1 (atP G p) (F p).length ((F p).map (Value.int .i64))
  far : ∀ p q, p ≠ q → (atP G p).ownBlock = none ∨ (atP G p).ownBlock ≠ (atP G q).ownBlock
  some_ : ∀ p, (G (.int .i64 p)).isSome = true ↔ F p ≠ []
  keys : ∀ kl, (G kl).isSome = true → ∃ p, kl = .int .i64 p
  low : m < base

theorem GroupsI.congr {w : World} {base m n : Nat} {G : Lit → Option Value} {F F' : Int → List Int} (h : GroupsI w base m n G F) (e : ∀ p, F p = F' p) : GroupsI w base m n G F' := by
  have : F = F' := funext e
  rw [← this]; exact h
theorem GroupsI.kept {w w' : World} {base m n : Nat} {G : Lit → Option Value} {F : Int → List Int} {row : Option Nat} (h : GroupsI w base m n G F) (hg : w.grownBy w' row) (hm : some m ≠ row) (hr : ∀ p, (atP G p).ownBlock = none ∨ (atP G p).ownBlock ≠ row) : GroupsI w' base m n G F :=
  ⟨h.map.kept hg hm, fun p => (h.row p).kept hg (hr p), h.far, h.some_, h.keys, h.low⟩
theorem GroupsI.more {w w' : World} {base m n : Nat} {G : Lit → Option Value} {F : Int → List Int} (h : GroupsI w base m n G F) (hg : w.grownBy w' none) : GroupsI w' base m n G F :=
  h.kept hg (by simp) (fun p => by cases (atP G p).ownBlock <;> simp)
theorem grown_of_below {w w' : World} (h : Below w.heap.size w w') : w.grownBy w' none := ⟨h.os, h.tape, h.output, h.size, fun k hk _ => h.block k hk⟩
theorem GroupsI.turn {w w' : World} {base m n r : Nat} {G : Lit → Option Value} {F : Int → List Int} {o : Obj} (h : GroupsI w base m n G F) (hg : w.grownBy w' (some r)) (hm : m ≠ r) (hr : w.heap[r]? = some o) (ho : o.isCells = false) : GroupsI w' base m n G F :=
  h.kept hg (fun e => hm (Option.some.inj e)) fun p => by
    cases hv : (atP G p).ownBlock with
    | none => exact .inl rfl
    | some g =>
      refine .inr fun e => ?_
      obtain ⟨cur, hc⟩ := own_cells (h.row p) g hv
      cases e
      rw [hr] at hc
      cases hc
      cases ho

theorem GroupsI.step {w w1 w2 : World} {base m n : Nat} {G : Lit → Option Value} {F : Int → List Int} (h : GroupsI w base m n G F) (p x : Int) {v' : Value} (hg : w.grownBy w1 (atP G p).ownBlock)
    (hown : w1.ownsRow base 3 1 v' ((F p).length + 1) ((F p).map (Value.int .i64) ++ [.int .i64 x])) (hloc : v'.ownBlock = (atP G p).ownBlock ∨ v'.ownBlock = some w.heap.size)
    (hput : MapFn w2 Tryz.prog 3 m (n + 1) (putFn G (.int .i64 p) v')) (hg2 : w1.grownBy w2 (some m)) : GroupsI w2 base m (n + 1) (putFn G (.int .i64 p) v') (fun q => if q = p then F p ++ [x] else F q) := by
  have low : ∀ {W : World} {v : Value} {k : Nat} {xs : List Value}, W.ownsRow base 3 1 v k xs → v.ownBlock = none ∨ v.ownBlock ≠ some m := fun {W v k xs} ho => by
    cases hv : v.ownBlock with
    | none => exact .inl rfl
    | some g =>
      refine .inr fun e => ?_
      have := (ho.lt g hv).1
      have := h.low
      cases e
      omega
  have old : ∀ q, q ≠ p → (atP G q).ownBlock = none ∨ (atP G q).ownBlock ≠ v'.ownBlock := fun q hq => by
    rcases hloc with h1 | h1
    · rw [h1]; exact h.far q p hq
    · cases hx : (atP G q).ownBlock with
      | none => exact .inl rfl
      | some gx =>
        have := ((h.row q).lt gx hx).2
        refine .inr fun e => ?_
        rw [h1] at e
        cases e
        omega
  refine ⟨hput, fun q => ?_, fun q r hqr => ?_, fun q => ?_, fun kl hk => ?_, h.low⟩
  · by_cases hq : q = p
    · subst hq
      rw [atP_put_same, if_pos rfl, List.map_append, List.length_append]
      exact hown.kept hg2 (low hown)
    · rw [atP_put_other G hq, if_neg hq]
      have h1 := (h.row q).kept hg (h.far q p hq)
      exact h1.kept hg2 (low h1)
  · by_cases hq : q = p
    · subst hq
      have hr : r ≠ q := fun e => hqr e.symm
      rw [atP_put_same, atP_put_other G hr]
      rcases old r hr with h1 | h1
      · cases hv : v'.ownBlock with
        | none => exact .inl rfl
        | some g => rw [h1]; exact .inr (by simp)
      · exact .inr fun e => h1 e.symm
    · by_cases hr : r = p
      · subst hr
        rw [atP_put_same, atP_put_other G hq]
        exact old q hq
      · rw [atP_put_other G hq, atP_put_other G hr]
        exact h.far q r hqr
  · by_cases hq : q = p
    · subst hq; simp [putFn]
    · have : putFn G (.int .i64 p) v' (.int .i64 q) = G (.int .i64 q) := by simp [putFn, hq]
      rw [this, if_neg hq]; exact h.some_ q
  · by_cases hkl : kl = .int .i64 p
    · exact ⟨p, hkl⟩
    · have : putFn G (.int .i64 p) v' kl = G kl := by simp [putFn, hkl]
      rw [this] at hk; exact h.keys kl hk
theorem GroupsI.made {w : World} {base m : Nat} (h : MapFn w Tryz.prog 3 m 0 (fun _ => none)) (hm : m < base) : GroupsI w base m 0 (fun _ => none) (fun _ => []) :=
  ⟨h, fun p => by show w.ownsRow base _ 1 nilS 0 []; exact World.ownsRow_nil _ _ _ _, fun p q _ => .inl rfl, fun p => by simp, fun kl hk => by simp at hk, hm⟩

/-! What is kept while one map turns. -/
theorem Groups.turn {w w' : World} {base m n b : Nat} {l : List Stay} {G : Lit → Option Value} {o : Obj} (h : Groups w base m l n G) (hg : w.grownBy w' (some b)) (hm : m ≠ b) (hr : w.heap[b]? = some o) (ho : o.isCells = false) : Groups w' base m l n G :=
  ⟨h.map.kept hg (fun e => hm (Option.some.inj e)), fun p => (h.row p).kept hg (by
    cases hv : (atP G p).ownBlock with
    | none => exact .inl rfl
    | some g =>
      refine .inr fun e => ?_
      obtain ⟨cur, hc⟩ := own_cells (h.row p) g hv
      cases e
      rw [hr] at hc
      cases hc
      cases ho), h.far, h.low⟩
theorem cell_turn {w w' : World} {b g off : Nat} {v : Value} {o : Obj} (h : w.cell? ⟨g, off, none⟩ = some v) (hg : w.grownBy w' (some b)) (hr : w.heap[b]? = some o) (ho : o.isCells = false) : w'.cell? ⟨g, off, none⟩ = some v := by
  have hlt : g < w.heap.size := World.block_lt_of_cell? w ⟨g, off, none⟩ h
  have hne : some g ≠ some b := fun e => by
    have e' := Option.some.inj e
    subst e'
    unfold World.cell? at h
    simp only [hr] at h
    cases o <;> simp at h <;> cases ho
  exact (World.cell?_of_block (w := w) (hg.block g hlt hne)).trans h
theorem PCells.turn {w w' : World} {b : Nat} {A : Option Addr} {l : List PD} {o : Obj} (h : PCells w w.heap.size A l) (hg : w.grownBy w' (some b)) (hr : w.heap[b]? = some o) (ho : o.isCells = false) : PCells w' w'.heap.size A l := fun k hk => by
  obtain ⟨g, off, e, h1, h2⟩ := h k hk
  refine ⟨g, off, e, Nat.lt_of_lt_of_le h1 hg.size, fun i hi => ?_⟩
  have hlen : i < (l[k].cells).length := by rw [PD.cells_length]; exact hi
  have h3 := h2 i hi
  rw [List.getElem?_eq_getElem hlen] at h3 ⊢
  exact cell_turn h3 hg hr ho

theorem mapFn_heap {w : World} {P : Program} {k : TypeId} {b n : Nat} {G : Lit → Option Value} (h : MapFn w P k b n G) : ∃ es clock, w.heap[b]? = some (.map es clock) := by
  obtain ⟨D, ⟨es, clock, h1, _⟩, _⟩ := h
  exact ⟨es, clock, h1⟩
theorem size_le {H : Type} {w : World} {P : Program} {k : TypeId} {R : Value → Option (DataW H × List MemPlace)} {b n : Nat} {D : DataW H} (h : w.ownsMap P k R b n D) : Maps.size D ≤ n := by
  obtain ⟨es, clock, hb, F, hs, rfl⟩ := h
  simpa [Maps.size, length_sorted] using hs

theorem has_some {D : DataW Value} {G : Lit → Option Value} (hat : ∀ kl z, D.atKey kl z = gotAt (G kl) z) (kl : Lit) : has D kl = (G kl).isSome := by
  cases hg : G kl with
  | none => rw [has_false_of_atKey (fun z => by rw [hat, hg]; rfl)]; rfl
  | some v => rw [has_true_of_atKey (y := .held v) (fun z => by rw [hat, hg]; rfl)]; rfl
theorem got_some {D : DataW Value} {G : Lit → Option Value} (hat : ∀ kl z, D.atKey kl z = gotAt (G kl) z) {kl : Lit} {v : Value} (h : ∀ zd, D.atKey kl zd = .held v) : G kl = some v := by
  have h1 := (hat kl .nil).symm.trans (h .nil)
  cases hg : G kl with
  | none => rw [hg] at h1; cases h1
  | some u => rw [hg] at h1; cases h1; rfl
theorem intKeys_spec {H : Type} {P : Program} {k : TypeId} {R : Value → Option (DataW H × List MemPlace)} {w : World} {b n : Nat} {D : DataW H} (hown : w.ownsMap P k R b n D) (K : Keyed P k) (hk : P.underlying k = some (.int .i64)) :
    (Go.intKeys D).Nodup ∧ ∀ x, x ∈ Go.intKeys D ↔ has D (.int .i64 x) = true := by
  obtain ⟨es, hD, hpw, _⟩ := hown.entries K
  obtain ⟨es', hD', hko⟩ := hown.keysOf
  obtain rfl : es = es' := by rw [hD] at hD'; simpa using hD'
  subst hD
  have hx : ∀ p ∈ es, ∃ x, p.1 = .int .i64 x := fun p hp => by
    obtain ⟨v, hv⟩ := hko p hp
    obtain ⟨x, _, hx, _⟩ := Go.Maps.keyOf_i64 hk hv
    exact ⟨x, hx⟩
  refine ⟨?_, fun x => ?_⟩
  · refine List.pairwise_map.2 (hpw.imp_of_mem fun {p q} hp' hq' hne e => hne ?_)
    obtain ⟨a, ha⟩ := hx p hp'
    obtain ⟨c, hc⟩ := hx q hq'
    rw [ha, hc] at e ⊢
    exact congrArg _ e
  · rw [has_eq, List.any_eq_true]
    show x ∈ es.map (fun p => Go.intOf p.1) ↔ _
    rw [List.mem_map]
    constructor
    · rintro ⟨p, hp', rfl⟩
      obtain ⟨a, ha⟩ := hx p hp'
      exact ⟨p, hp', by rw [ha]; simp [Lit.sameKey, Go.intOf]⟩
    · rintro ⟨p, hp', hs⟩
      obtain ⟨a, ha⟩ := hx p hp'
      rw [ha] at hs
      exact ⟨p, hp', by rw [ha]; simpa [Lit.sameKey, Go.intOf] using hs⟩

/-- What has been told when some of a person's places have come. -/
def partF (day : Int) (l : List Rec) (r : Rec) (left : Lit → Bool) (p : Int) : List Int := idsAt day p l ++ if left (.int .i64 p) = false ∧ atB day p r = true then [r.id] else []
theorem partF_end {day : Int} {l : List Rec} {r : Rec} {left : Lit → Bool} (h : ∀ kl, left kl = false) (p : Int) : partF day l r left p = idsAt day p (l ++ [r]) := by
  rw [partF, idsAt_snoc]
  congr 1
  by_cases hb : atB day p r = true
  · rw [if_pos ⟨h _, hb⟩, if_pos hb]
  · rw [if_neg (fun e => hb e.2), if_neg hb]
theorem partF_start {day : Int} {l : List Rec} {r : Rec} {w : World} {base m n : Nat} {G : Lit → Option Value} {D : DataW Value} (hG : Groups w base m r.stays n G) (hat : ∀ kl z, D.atKey kl z = gotAt (G kl) z) (p : Int) : idsAt day p l = partF day l r (has D) p := by
  unfold partF
  rw [if_neg, List.append_nil]
  rintro ⟨h1, h2⟩
  rw [has_some hat] at h1
  have hg : G (.int .i64 p) = none := by
    cases h : G (.int .i64 p) with
    | none => rfl
    | some v => rw [h] at h1; cases h1
  have hrow := hG.row p
  have ha : atP G p = nilS := by unfold atP; rw [hg]; rfl
  rw [ha] at hrow
  have hz : (ofP r.stays p).length = 0 := by
    rcases hrow.2 with ⟨_, h0⟩ | ⟨g, cap, cur, hv, _⟩
    · exact h0
    · cases hv
  have : ofP r.stays p = [] := List.eq_nil_of_length_eq_zero hz
  unfold atB at h2
  rw [this] at h2
  cases h2
theorem sameKey_int (p q : Int) : (Lit.int .i64 q).sameKey (.int .i64 p) = decide (q = p) := by
  by_cases h : q = p
  · subst h; rw [WideAt.sameKey_self (show WideAt.IsKeyLit (.int .i64 q) from trivial)]; simp
  · cases hk : (Lit.int .i64 q).sameKey (.int .i64 p) with
    | false => simp [h]
    | true => have := WideAt.sameKey_eq hk; injection this with _ e; exact absurd e h
theorem partF_hit {day : Int} {l : List Rec} {r : Rec} {left : Lit → Bool} {p : Int} (hl : left (.int .i64 p) = true) (hb : atB day p r = true) (q : Int) :
    (if q = p then partF day l r left p ++ [r.id] else partF day l r left q) = partF day l r (fun z => left z && !z.sameKey (.int .i64 p)) q := by
  unfold partF
  dsimp only
  by_cases hq : q = p
  · subst hq
    rw [if_pos rfl, if_neg (fun e => by rw [hl] at e; cases e.1), if_pos ⟨by rw [sameKey_int]; simp, hb⟩]; simp
  · have hk : (Lit.int .i64 q).sameKey (.int .i64 p) = false := by rw [sameKey_int]; simp [hq]
    rw [if_neg hq]; simp [hk]
theorem partF_miss {day : Int} {l : List Rec} {r : Rec} {left : Lit → Bool} {p : Int} (hb : atB day p r = false) (q : Int) :
    partF day l r left q = partF day l r (fun z => left z && !z.sameKey (.int .i64 p)) q := by
  unfold partF
  dsimp only
  by_cases hq : q = p
  · subst hq; rw [if_neg (fun e => by rw [hb] at e; cases e.2), if_neg (fun e => by rw [hb] at e; cases e.2)]
  · have hk : (Lit.int .i64 q).sameKey (.int .i64 p) = false := by rw [sameKey_int]; simp [hq]
    simp [hk]
theorem partF_le (day : Int) (l : List Rec) (r : Rec) (left : Lit → Bool) (p : Int) : (partF day l r left p).length ≤ l.length + 1 := by
  unfold partF idsAt
  rw [List.length_append, List.length_map]
  have := List.length_filter_le (atB day p) l
  split <;> simp <;> omega
theorem ranges_heap {H : Type} {w : World} {P : Program} {k : TypeId} {R : Value → Option (DataW H × List MemPlace)} {b r n : Nat} {D : DataW H} {left : Lit → Bool} {cnt : Nat} (h : w.ranges P k R b r n D left cnt) : ∃ o, w.heap[r]? = some o ∧ o.isCells = false := by
  obtain ⟨_, _, since, seen, c0, _, _, _, _, hr, _⟩ := h
  exact ⟨_, hr, rfl⟩
theorem blk_ne_own {w : World} {g : Nat} {cs : Array Value} {t e : TypeId} (h : Blk w g cs t) (hte : t ≠ e) {base size k : Nat} {v : Value} {xs : List Value} (hr : w.ownsRow base e size v k xs) : some g ≠ v.ownBlock := by
  intro e'
  obtain ⟨cur, hc⟩ := own_cells hr g e'.symm
  have := (show w.heap[g]? = _ from h).symm.trans hc
  simp at this
  exact hte this.2

/-! The keys of the map, in order. -/
set_option maxHeartbeats 400000 in
theorem keysI_any (m : Nat) (W : World) : Calls Tryz.prog 40 #[.map (some m)] W fun e w' => e = .returned (.func (.func 72) #[] #[.pointer (some ⟨W.heap.size, 0, none⟩)]) ∧ w' = W.alloc (.cells #[.map (some m)] 87) := by
  go_enter Tryz.func40, Tryz.ntmps40
  go_wp2
  go_ret
  exact ⟨rfl, rfl⟩

theorem collectK_any (Bm m n : Nat) (D : DataW Value) (W : World) (hBm : Bm < W.heap.size) (hm : W.cell? ⟨Bm, 0, none⟩ = some (.map (some m))) (hown : W.ownsMap Tryz.prog 3 rawElem m n D) (hn : n ≤ 1000) :
    Calls Tryz.prog 39 #[.func (.func 72) #[] #[.pointer (some ⟨Bm, 0, none⟩)]] W fun e w' => ∃ v, ∃ ss : List Int, e = .returned v ∧ ss.Perm (Go.intKeys D) ∧ w'.ownsRow W.heap.size 3 1 v ss.length (ss.map (Value.int .i64)) ∧ Below W.heap.size W w' := by
  have hsz := size_le hown
  have hg := AnyZI.keys_gives (P := Tryz.prog) (ρ := Tryz.keysInt_ren) { Tryz.keysInt with } Fence.wide 1 trivial rfl (Nat.le_refl _) Bm m n D W hBm hm hown
  have h := callsIn_wide.1 (AnyZI.collect_in Tryz.collectInt Fence.wide 3 trivial trivial rfl (Nat.le_refl _) 72 #[.pointer (some ⟨Bm, 0, none⟩)] trivial (enters_of Tryz.func72 (by kernel_rfl) rfl) (fun ss : List Int => ss.Perm (Go.intKeys D)) (Maps.size D) (by unfold maxLen; omega) (by omega) W hg)
  exact h.mono fun e w' ⟨v, ss, he, hp, hr, _, hb⟩ => ⟨v, ss, he, hp, hr, hb⟩

end Go.Proofs.YtbkmfomdhjhkpaaGreat
