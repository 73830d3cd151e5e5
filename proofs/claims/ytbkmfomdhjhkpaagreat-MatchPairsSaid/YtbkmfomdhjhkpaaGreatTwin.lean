/- A record in new memory. -/
import Derived.Test.YtbkmfomdhjhkpaaGreatChk
import Derived.Laws.AppendOwnNone
namespace Go.Proofs.YtbkmfomdhjhkpaaGreat
open Go.RowKit

section
variable {P : Program} (w : World)
/-- Nothing is appended to a row of the call's own. -/
theorem run_append_nothing (base : Nat) (t ty e : TypeId) (i : TypeInfo) (size : Nat) (ht : P.underlying t = some (.slice e)) (hi : P.info? e = some i)
    (v : Value) (n : Nat) (xs : List Value) (hown : w.ownsRow base e size v n xs) (c : Nat) : (Builtin.append_ #[t, t] ty #[v, .slice none 0 c]).run P w = .ok v w := by
  rcases hown.2 with ⟨rfl, rfl⟩ | ⟨g, cap, cur, rfl, _, _, hnc, _⟩
  · simp [Builtin.append_, run_underlying ht, sizeOf, typeInfo, hi, Builtin.lenOf, Builtin.firstCells]
  · simp [Builtin.append_, run_underlying ht, sizeOf, typeInfo, hi, Builtin.lenOf, Builtin.firstCells, hnc, storeCells]

/-- 'append(out, src...)', out the call's own, src whatever: nil, empty or not. -/
theorem wpList_append_src {ops : Array Oper} {rest : List Oper} {o : Oper} {a : Act} {Q : Exit → Act → World → Prop} (hgd : o.guard = none) (s x : Operand) (t : TypeId)
    (ho : o.op = .call { callee := .builtin .append, args := #[s, x], argTypes := #[t, t] })
    (base : Nat) (e : TypeId) (i : TypeInfo) (z : Value) (size bytes : Nat) (ht : P.underlying t = some (.slice e)) (hi : P.info? e = some i) (hz : i.zero = some z)
    (hsize : i.size = size) (hby : i.bytes = bytes) (hzs : z.cells.size = size) (hsz : 0 < size)
    (v : Value) (n : Nat) (xs : List Value) (hs : a.eval s = v) (hown : w.ownsRow base e size v n xs)
    (A : Option Addr) (m c : Nat) (news : List Value) (hx : a.eval x = .slice A m c) (hl : news.length = m * size) (hA : A = none → m = 0) (hnews : ∀ ad, A = some ad → ∀ j u, news[j]? = some u → w.cell? (ad.add j) = some u)
    (h1 : ∀ u ∈ news, u.oneCell' = true) (h63 : n + m ≤ maxLen) (hbytes : (n + m) * bytes ≤ 140737488355328) (hbase : base ≤ w.heap.size)
    (h : ∀ v' w', w'.ownsRow base e size v' (n + m) (xs ++ news) → w.grownBy w' v.ownBlock → (v'.ownBlock = v.ownBlock ∨ v'.ownBlock = some w.heap.size) → wpList P ops Q rest (a.put o.dst v') w') : wpList P ops Q (o :: rest) a w := by
  cases A with
  | some ad => exact wpList_append_own_at w hgd s x t ho base e i z size bytes ht hi hz hsize hby hzs hsz v n xs hs hown ad m c news hx hl (hnews ad rfl) h1 h63 hbytes hbase fun v' w' h2 h3 _ h5 => h v' w' h2 h3 h5
  | none =>
    obtain rfl := hA rfl
    have hn : news = [] := List.eq_nil_of_length_eq_zero (by simpa using hl)
    subst hn
    refine wpList_plain hgd fun K hK => ?_
    have hrun := run_append_nothing (P := P) w base t o.type e i size ht hi v n xs hown c
    unfold Oper.wp execOp
    simp only [ho, resolve, invoke, builtin, Sem.run_bind, Sem.run_pure, Result.andThen_ok, List.map_toArray, List.map_cons, List.map_nil, hs, hx, hrun]
    exact hK _ _ (h v w (by simpa using hown) (World.grownBy.refl w _) (.inl rfl))
end

/-- The cells of stays, one after the other. -/
def stayCells (l : List Stay) : List Value := l.flatMap fun s => [.int .i64 s.p, .int .i64 s.f, .int .i64 s.t]

theorem stayCells_length (l : List Stay) : (stayCells l).length = l.length * 3 := by
  induction l with
  | nil => rfl
  | cons s l ih => simp only [stayCells, List.flatMap_cons, List.length_append, List.length_cons, List.length_nil] at ih ⊢; omega

theorem stayCells_get (l : List Stay) (k : Nat) (h : k < l.length) : (stayCells l)[k * 3]? = some (.int .i64 l[k].p) ∧ (stayCells l)[k * 3 + 1]? = some (.int .i64 l[k].f) ∧ (stayCells l)[k * 3 + 2]? = some (.int .i64 l[k].t) := by
  induction l generalizing k with
  | nil => simp at h
  | cons s l ih =>
    cases k with
    | zero => simp [stayCells]
    | succ k =>
      have := ih k (by simpa using h)
      have e : stayCells (s :: l) = [.int .i64 s.p, .int .i64 s.f, .int .i64 s.t] ++ stayCells l := rfl
      rw [e, List.getElem?_append_right (by simp; omega), List.getElem?_append_right (by simp; omega), List.getElem?_append_right (by simp; omega)]
      simp only [List.length_cons, List.length_nil, List.getElem_cons_succ]
      rw [show (k + 1) * 3 - (0 + 1 + 1 + 1) = k * 3 by omega, show (k + 1) * 3 + 1 - (0 + 1 + 1 + 1) = k * 3 + 1 by omega, show (k + 1) * 3 + 2 - (0 + 1 + 1 + 1) = k * 3 + 2 by omega]
      exact this

theorem stayCells_one (l : List Stay) : ∀ u ∈ stayCells l, u.oneCell' = true := by
  intro u hu
  simp only [stayCells, List.mem_flatMap, List.mem_cons, List.not_mem_nil, or_false] at hu
  obtain ⟨s, _, rfl | rfl | rfl⟩ := hu <;> rfl

theorem Stays.news {w : World} {B : Nat} {A : Option Addr} {l : List Stay} (h : Stays w B A l) : ∀ ad, A = some ad → ∀ j u, (stayCells l)[j]? = some u → w.cell? (ad.add j) = some u := by
  rintro ad rfl j u hu
  have hj : j < l.length * 3 := by rw [← stayCells_length]; exact (List.getElem?_eq_some_iff.1 hu).1
  have hk : j / 3 < l.length := by omega
  obtain ⟨b, off, e, _, c1, c2, c3⟩ := h (j / 3) hk
  obtain rfl := Option.some.inj e
  obtain ⟨g1, g2, g3⟩ := stayCells_get l (j / 3) hk
  rw [WideShapes.add_plain]
  rcases (show j = j / 3 * 3 ∨ j = j / 3 * 3 + 1 ∨ j = j / 3 * 3 + 2 by omega) with e | e | e
  · rw [e] at hu; rw [g1] at hu; rw [e, ← hu]; exact c1
  · rw [e] at hu; rw [g2] at hu; rw [e, ← hu]; exact c2
  · rw [e] at hu; rw [g3] at hu; rw [e, ← hu]; exact c3
theorem Strs.news {w : World} {B : Nat} {A : Option Addr} {l : List ByteArray} (h : Strs w B A l) : ∀ ad, A = some ad → ∀ j u, (l.map Value.string)[j]? = some u → w.cell? (ad.add j) = some u := by
  rintro ad rfl j u hu
  have hj : j < l.length := by simpa using (List.getElem?_eq_some_iff.1 hu).1
  obtain ⟨b, off, e, _, c1, _⟩ := h j hj
  obtain rfl := Option.some.inj e
  rw [WideShapes.add_plain]
  simp only [List.getElem?_map, List.getElem?_eq_getElem hj, Option.map_some, Option.some.injEq] at hu
  rw [← hu]; exact c1
theorem Strs.none_ {w : World} {B : Nat} {l : List ByteArray} (h : Strs w B none l) : l.length = 0 := by
  rcases Nat.eq_zero_or_pos l.length with h0 | h0
  · exact h0
  · obtain ⟨_, _, e, _⟩ := h 0 h0; cases e
theorem Stays.none_ {w : World} {B : Nat} {l : List Stay} (h : Stays w B none l) : l.length = 0 := by
  rcases Nat.eq_zero_or_pos l.length with h0 | h0
  · exact h0
  · obtain ⟨_, _, e, _⟩ := h 0 h0; cases e

/-- What a row of the call's own holds. -/
theorem strs_of_own {w : World} {base : Nat} {A : Option Addr} {n c : Nat} {l : List ByteArray} (h : w.ownsRow base 9 1 (.slice A n c) n (l.map Value.string)) (hs : ∀ s ∈ l, s.size ≤ maxLen) : Strs w w.heap.size A l := by
  intro k hk
  have hn : n = l.length := by have := h.1; simpa using this.symm
  obtain ⟨g, cap, hv, hb, hlt⟩ := h.form (by omega)
  injection hv with hA
  subst hA
  refine ⟨g, 0, rfl, hlt, ?_, hs _ (List.getElem_mem hk)⟩
  have := h.cells (g := g) rfl k (.string l[k]) (by simp [hk])
  rwa [WideShapes.add_plain] at this
theorem stays_of_own {w : World} {base : Nat} {A : Option Addr} {n c : Nat} {l : List Stay} (h : w.ownsRow base 75 3 (.slice A n c) n (stayCells l)) : Stays w w.heap.size A l := by
  intro k hk
  have hn : n = l.length := by have := h.1; rw [stayCells_length] at this; omega
  obtain ⟨g, cap, hv, hb, hlt⟩ := h.form (by omega)
  injection hv with hA
  subst hA
  obtain ⟨g1, g2, g3⟩ := stayCells_get l k hk
  have c1 := h.cells (g := g) rfl _ _ g1
  have c2 := h.cells (g := g) rfl _ _ g2
  have c3 := h.cells (g := g) rfl _ _ g3
  rw [WideShapes.add_plain] at c1 c2 c3
  exact ⟨g, 0, rfl, hlt, c1, c2, c3⟩

theorem own_slice {w : World} {base : Nat} {e : TypeId} {size n : Nat} {v : Value} {xs : List Value} (h : w.ownsRow base e size v n xs) : ∃ A c, v = .slice A n c := by
  rcases h.2 with ⟨rfl, rfl⟩ | ⟨g, cap, cur, rfl, _⟩
  · exact ⟨_, _, rfl⟩
  · exact ⟨_, _, rfl⟩

theorem stringInfo : (Tryz.prog.info? 9).map (fun i => (i.zero, i.size, i.bytes)) = some (some (.string ByteArray.empty), 1, 16) := by kernel_rfl
theorem stayInfo : (Tryz.prog.info? 75).map (fun i => (i.zero, i.size, i.bytes)) = some (some (.agg #[.int .i64 0, .int .i64 0, .int .i64 0]), 3, 24) := by kernel_rfl

/-- Block g holds just the cells cs. -/
def Blk (w : World) (g : Nat) (cs : Array Value) (t : TypeId) : Prop := w.heap[g]? = some (.cells cs t (0, 0))
theorem Blk.cell {w : World} {g : Nat} {cs : Array Value} {t : TypeId} (h : Blk w g cs t) (i : Nat) : w.cell? ⟨g, i, none⟩ = cs[i]? := by
  unfold Blk at h; simp [World.cell?, h]
theorem Blk.free {w : World} {g : Nat} {cs : Array Value} {t : TypeId} (h : Blk w g cs t) (i : Nat) : w.frozen? ⟨g, i, none⟩ = false := by
  unfold Blk at h; simp [World.frozen?, h]
theorem Blk.set {w : World} {g : Nat} {cs : Array Value} {t : TypeId} (h : Blk w g cs t) (i : Nat) (v : Value) : Blk (w.setCell ⟨g, i, none⟩ v) g (cs.setIfInBounds i v) t := by
  unfold Blk at h ⊢; simp [World.setCell, Array.getElem?_modify, h]
theorem Blk.lt {w : World} {g : Nat} {cs : Array Value} {t : TypeId} (h : Blk w g cs t) : g < w.heap.size := by
  rcases Nat.lt_or_ge g w.heap.size with hlt | hge
  · exact hlt
  · unfold Blk at h; rw [Array.getElem?_eq_none hge] at h; cases h
theorem Blk.alloc {w : World} {g : Nat} {cs : Array Value} {t : TypeId} (h : Blk w g cs t) (o : Obj) : Blk (w.alloc o) g cs t := (Go.heap_alloc_old w o h.lt).trans h
theorem Blk.new (w : World) (cs : Array Value) (t : TypeId) : Blk (w.alloc (.cells cs t)) w.heap.size cs t := heap_alloc_new w _
theorem Blk.below {w w' : World} {B g : Nat} {cs : Array Value} {t : TypeId} (h : Blk w g cs t) (hb : Below B w w') (hg : g < B) : Blk w' g cs t := (hb.block g hg).trans h
theorem Blk.far {w : World} {g : Nat} {cs : Array Value} {t : TypeId} (h : Blk w g cs t) {p : Addr} (hp : g ≠ p.block) (v : Value) : Blk (w.setCell p v) g cs t := by
  unfold Blk at h ⊢; simp [World.setCell, Array.getElem?_modify, h]; intro e; exact absurd e.symm hp

theorem ownsRow_nine {w : World} {base : Nat} {e : TypeId} {size n : Nat} {v : Value} {xs : List Value} (h : w.ownsRow base e size v n xs) {g g' : Nat} (hg : g < base) (hg' : g' < base) {i0 j0 j1 j2 j3 j4 j5 j6 j7 : Nat} {v0 u0 u1 u2 u3 u4 u5 u6 u7 : Value} :
    (((((((((w.setCell ⟨g, i0, none⟩ v0).setCell ⟨g', j0, none⟩ u0).setCell ⟨g', j1, none⟩ u1).setCell ⟨g', j2, none⟩ u2).setCell ⟨g', j3, none⟩ u3).setCell ⟨g', j4, none⟩ u4).setCell ⟨g', j5, none⟩ u5).setCell ⟨g', j6, none⟩ u6).setCell ⟨g', j7, none⟩ u7).ownsRow base e size v n xs := by
  have h1 := ownsRow_setCell_below h (a := ⟨g, i0, none⟩) hg v0
  have h2 := ownsRow_setCell_below h1 (a := ⟨g', j0, none⟩) hg' u0
  have h3 := ownsRow_setCell_below h2 (a := ⟨g', j1, none⟩) hg' u1
  have h4 := ownsRow_setCell_below h3 (a := ⟨g', j2, none⟩) hg' u2
  have h5 := ownsRow_setCell_below h4 (a := ⟨g', j3, none⟩) hg' u3
  have h6 := ownsRow_setCell_below h5 (a := ⟨g', j4, none⟩) hg' u4
  have h7 := ownsRow_setCell_below h6 (a := ⟨g', j5, none⟩) hg' u5
  have h8 := ownsRow_setCell_below h7 (a := ⟨g', j6, none⟩) hg' u6
  exact ownsRow_setCell_below h8 (a := ⟨g', j7, none⟩) hg' u7

set_option maxHeartbeats 400000 in
theorem twin_any (A D : Option Addr) (c d : Nat) (r : Rec) (w : World) (h : RecAt w w.heap.size A D r) (hn : r.names.length ≤ 1000) (hs : r.stays.length ≤ 1000) :
    Calls Tryz.prog 24 #[.agg #[.int .i64 r.id, .slice A r.names.length c, .int .u8 r.suf, .int .i64 r.lo, .int .i64 r.hi, .string r.num, .bool r.twin, .slice D r.stays.length d]] w fun e w' => ∃ A' c' D' d', e = .returned (.agg #[.int .i64 r.id, .slice A' r.names.length c', .int .u8 r.suf, .int .i64 r.lo, .int .i64 r.hi, .string r.num, .bool r.twin, .slice D' r.stays.length d']) ∧ RecAt w' w'.heap.size A' D' r ∧ Below w.heap.size w w' := by
  obtain ⟨i0, hi, hz0, hz1, hz2⟩ := info_parts stringInfo
  obtain ⟨j0, ki, kz0, kz1, kz2⟩ := info_parts stayInfo
  go_enter Tryz.func24, Tryz.ntmps24
  have hst0 := h.strs
  have hsy0 := h.stays
  have hown0 : (((w.alloc (.cells #[.int .i64 r.id, .slice A r.names.length c, .int .u8 r.suf, .int .i64 r.lo, .int .i64 r.hi, .string r.num, .bool r.twin, .slice D r.stays.length d] 47)).alloc (.cells #[.int .i64 0, .slice none 0 0, .int .u8 0, .int .i64 0, .int .i64 0, .string ByteArray.empty, .bool false, .slice none 0 0] 47)).alloc (.cells #[] 9)).ownsRow (w.heap.size + 2) 9 1 (.slice (some ⟨w.heap.size + 1 + 1, 0, none⟩) 0 0) 0 [] := by
    simpa using World.ownsRow_made (base := w.heap.size + 2) (e := 9) (size := 1) ((w.alloc (.cells #[.int .i64 r.id, .slice A r.names.length c, .int .u8 r.suf, .int .i64 r.lo, .int .i64 r.hi, .string r.num, .bool r.twin, .slice D r.stays.length d] 47)).alloc (.cells #[.int .i64 0, .slice none 0 0, .int .u8 0, .int .i64 0, .int .i64 0, .string ByteArray.empty, .bool false, .slice none 0 0] 47)) #[] 0 (by simp) (by simp [maxLen]) (by simp)
  go_wp2_with (at_builtin; refine wpList_append_src _ rfl (.tmp 3) (.tmp 5) 42 rfl (w.heap.size + 2) 9 i0 _ 1 16 Tryz.underlying42 hi hz0 hz1 hz2 rfl (by decide) _ 0 [] rfl ?a1 A r.names.length c (r.names.map Value.string) rfl ?a2 ?a3 ?a4 ?a5 ?a6 ?a7 ?a8 ?_)
  case a1 => exact hown0
  case a2 => simp
  case a3 => rintro rfl; exact hst0.none_
  case a4 => exact (((hst0.alloc (Nat.le_refl _) _).alloc (by simp) _).alloc (by simp; omega) _).news
  case a5 => intro u hu; simp only [List.mem_map] at hu; obtain ⟨_, _, rfl⟩ := hu; rfl
  case a6 => unfold maxLen; omega
  case a7 => omega
  case a8 => simp
  intro v1 w1 hown1 hg1 hat1
  obtain ⟨A1, c1, rfl⟩ := own_slice hown1
  have hb1 : Below (w.heap.size + 2) (((w.alloc (.cells #[.int .i64 r.id, .slice A r.names.length c, .int .u8 r.suf, .int .i64 r.lo, .int .i64 r.hi, .string r.num, .bool r.twin, .slice D r.stays.length d] 47)).alloc (.cells #[.int .i64 0, .slice none 0 0, .int .u8 0, .int .i64 0, .int .i64 0, .string ByteArray.empty, .bool false, .slice none 0 0] 47)).alloc (.cells #[] 9)) w1 :=
    (Below.refl _ _).grown hg1 (by simp) (by intro k hk; simp [Value.ownBlock] at hk; omega)
  have hz1' := hb1.size
  simp only [World.size_alloc] at hz1'
  have hbw1 : Below w.heap.size w w1 := ((((Below.refl _ _).alloc (Nat.le_refl _) _).alloc (by simp) _).alloc (by simp; omega) _).trans (hb1.mono (by omega))
  have hz2' : w.heap.size < w1.heap.size := by omega
  have hz3' : w.heap.size + 1 < w1.heap.size := by omega
  have B1 : Blk w1 w.heap.size #[.int .i64 r.id, .slice A r.names.length c, .int .u8 r.suf, .int .i64 r.lo, .int .i64 r.hi, .string r.num, .bool r.twin, .slice D r.stays.length d] 47 := (((Blk.new w _ _).alloc _).alloc _).below hb1 (by omega)
  have R1 : Blk w1 (w.heap.size + 1) #[.int .i64 0, .slice none 0 0, .int .u8 0, .int .i64 0, .int .i64 0, .string ByteArray.empty, .bool false, .slice none 0 0] 47 := by
    have := (Blk.new (w.alloc (.cells #[.int .i64 r.id, .slice A r.names.length c, .int .u8 r.suf, .int .i64 r.lo, .int .i64 r.hi, .string r.num, .bool r.twin, .slice D r.stays.length d] 47)) #[.int .i64 0, .slice none 0 0, .int .u8 0, .int .i64 0, .int .i64 0, .string ByteArray.empty, .bool false, .slice none 0 0] 47).alloc (.cells #[] 9)
    rw [World.size_alloc] at this
    exact this.below hb1 (by omega)
  have hbc1 := B1.cell
  have hbf1 := B1.free
  have Hown1 := Lib.hid hown1
  have Hg1 := Lib.hid hg1
  have Hat1 := Lib.hid hat1
  clear hown1 hg1 hat1 hown0
  go_wp2_with (at_builtin; refine wpList_append_src _ rfl (.tmp 8) (.tmp 10) 45 rfl (w.heap.size + 2) 75 j0 _ 3 24 Tryz.underlying45 ki kz0 kz1 kz2 rfl (by decide) (.slice (some ⟨w1.heap.size, 0, none⟩) 0 0) 0 [] rfl ?b1 D r.stays.length d (stayCells r.stays) rfl ?b2 ?b3 ?b4 ?b5 ?b6 ?b7 ?b8 ?_)
  case b1 => simpa using World.ownsRow_made (base := w.heap.size + 2) (e := 75) (size := 3) (w1.setCell ⟨w.heap.size, 1, none⟩ (.slice A1 r.names.length c1)) #[] 0 (by simp; omega) (by simp [maxLen]) (by simp)
  case b2 => exact stayCells_length _
  case b3 => rintro rfl; exact hsy0.none_
  case b4 => exact (hsy0.below ((hbw1.setCell (p := ⟨w.heap.size, 1, none⟩) (Nat.le_refl _) _).alloc (by simp; omega) _)).news
  case b5 => exact stayCells_one _
  case b6 => unfold maxLen; omega
  case b7 => omega
  case b8 => simp; omega
  intro v2 w2 hown2 hg2 hat2
  obtain ⟨D1, d1, rfl⟩ := own_slice hown2
  have hb2 : Below (w.heap.size + 2) ((w1.setCell ⟨w.heap.size, 1, none⟩ (.slice A1 r.names.length c1)).alloc (.cells #[] 75)) w2 :=
    (Below.refl _ _).grown hg2 (by simp; omega) (by intro k hk; simp [Value.ownBlock] at hk; omega)
  have hz4 := hb2.size
  simp only [World.size_alloc, World.size_setCell] at hz4
  have hz5 : w.heap.size < w2.heap.size := by omega
  have hz6 : w.heap.size + 1 < w2.heap.size := by omega
  have B2 : Blk w2 w.heap.size #[.int .i64 r.id, .slice A1 r.names.length c1, .int .u8 r.suf, .int .i64 r.lo, .int .i64 r.hi, .string r.num, .bool r.twin, .slice D r.stays.length d] 47 := ((B1.set 1 _).alloc _).below hb2 (by omega)
  have R2 : Blk w2 (w.heap.size + 1) #[.int .i64 0, .slice none 0 0, .int .u8 0, .int .i64 0, .int .i64 0, .string ByteArray.empty, .bool false, .slice none 0 0] 47 := ((R1.far (p := ⟨w.heap.size, 1, none⟩) (by simp) _).alloc _).below hb2 (by omega)
  clear hbc1 hbf1
  have hbc2 := B2.cell
  have hbf2 := B2.free
  have hrc2 := R2.cell
  have hrf2 := R2.free
  have hc2s := ((B2.set 7 (.slice D1 r.stays.length d1)).cell 7)
  have Hown2 := Lib.hid hown2
  have Hg2 := Lib.hid hg2
  have Hat2 := Lib.hid hat2
  clear hown2 hg2 hat2
  go_wp2_with fail
  have R3 := (((((((((R2.far (p := ⟨w.heap.size, 7, none⟩) (by simp) (.slice D1 r.stays.length d1)).set 0 (.int .i64 r.id)).set 1 (.slice A1 r.names.length c1)).set 2 (.int .u8 r.suf)).set 3 (.int .i64 r.lo)).set 4 (.int .i64 r.hi)).set 5 (.string r.num)).set 6 (.bool r.twin)).set 7 (.slice D1 r.stays.length d1))
  have hrc3 := R3.cell
  refine bodyPost_ret (v := .agg #[.int .i64 r.id, .slice A1 r.names.length c1, .int .u8 r.suf, .int .i64 r.lo, .int .i64 r.hi, .string r.num, .bool r.twin, .slice D1 r.stays.length d1]) ?hres rfl ?hpost
  case hres => simp [results, Tryz.results24, go_sem, hrc3]
  case hpost =>
    have hbw2 : Below w.heap.size w w2 := ((hbw1.setCell (p := ⟨w.heap.size, 1, none⟩) (Nat.le_refl _) _).alloc (by simp; omega) _).trans (hb2.mono (by omega))
    have hfin := ((((((((hbw2.setCell (p := ⟨w.heap.size, 7, none⟩) (Nat.le_refl _) (.slice D1 r.stays.length d1)).setCell (p := ⟨w.heap.size + 1, 0, none⟩) (by simp) (.int .i64 r.id)).setCell (p := ⟨w.heap.size + 1, 1, none⟩) (by simp) (.slice A1 r.names.length c1)).setCell (p := ⟨w.heap.size + 1, 2, none⟩) (by simp) (.int .u8 r.suf)).setCell (p := ⟨w.heap.size + 1, 3, none⟩) (by simp) (.int .i64 r.lo)).setCell (p := ⟨w.heap.size + 1, 4, none⟩) (by simp) (.int .i64 r.hi)).setCell (p := ⟨w.heap.size + 1, 5, none⟩) (by simp) (.string r.num)).setCell (p := ⟨w.heap.size + 1, 6, none⟩) (by simp) (.bool r.twin)).setCell (p := ⟨w.heap.size + 1, 7, none⟩) (by simp) (.slice D1 r.stays.length d1)
    refine ⟨A1, c1, D1, d1, rfl, ⟨?_, ?_, h.names_le, h.stays_le, h.num_le⟩, hfin⟩
    · have g1 := ((ownsRow_setCell_below Hown1.out (a := ⟨w.heap.size, 1, none⟩) (by show w.heap.size < _; omega) (.slice A1 r.names.length c1)).alloc (.cells #[] 75)).kept Hg2.out (by
        have hl := Hown1.out.lt
        cases A1 with
        | none => left; rfl
        | some ad => right; have := (hl ad.block rfl).2; simp [Value.ownBlock]; omega)
      exact strs_of_own (ownsRow_nine g1 (by show w.heap.size < _; omega) (by show w.heap.size + 1 < _; omega)) (fun s hs => by
        obtain ⟨k, hk, rfl⟩ := List.getElem_of_mem hs
        obtain ⟨_, _, _, _, _, g⟩ := hst0 k hk
        exact g)
    · exact stays_of_own (ownsRow_nine Hown2.out (by show w.heap.size < _; omega) (by show w.heap.size + 1 < _; omega))

end Go.Proofs.YtbkmfomdhjhkpaaGreat
