/- A record in new memory. -/
import Derived.Test.YtoinegfcodnjhaaGreatDoorChk
import Derived.Laws.AppendOwnNone
namespace Go.Proofs.YtoinegfcodnjhaaGreatDoor
open Go.RowKit

section
variable {P : Program} (w : World)
/-- Nothing is appended to a row of the call's own. -/
theorem run_append_nothing (base : Nat) (t ty e : TypeId) (i : TypeInfo) (size : Nat) (ht : P.underlying t = some (.slice e)) (hi : P.info? e = some i)
    (v : Value) (n : Nat) (xs : List Value) (hown : w.ownsRow base e size v n xs) (c : Nat) : (Builtin.append_ #[t, t] ty #[v, .slice none 0 c]).run P w = .ok v w := by
  rcases hown.2 with ⟨rfl, rfl⟩ | ⟨g, cap, cur, rfl, _, _, hnc, _⟩
  · simp [Builtin.append_, run_underlying ht, sizeOf, typeInfo, hi, Builtin.lenOf, Builtin.firstCells]
  · simp [Builtin.append_, run_underlying ht, sizeOf, typeInfo, hi, Builtin.lenOf, Builtin.firstCells, hnc, storeCells]

/-- 'append(out, src...)', out the call's own, src whatever: nil, empty or not. -/
theorem wpList_append_src {ops : Array Oper} {rest : List Oper} {o : Oper} {a : Act} {Q : Exit → Act → World → Prop} (hgd : o.guard = none) (s x : Operand) (t : TypeId)
    (ho : o.op = .call { callee := .builtin .append, args := #[s, x], argTypes := #[t, t] })
    (base : Nat) (e : TypeId) (i : TypeInfo) (z : Value) (size bytes : Nat) (ht : P.underlying t = some (.slice e)) (hi : P.info? e = some i) (hz : i.zero = some z)
    (hsize : i.size = size) (hby : i.bytes = bytes) (hzs : z.cells.size = size) (hsz : 0 < size)
    (v : Value) (n : Nat) (xs : List Value) (hs : a.eval s = v) (hown : w.ownsRow base e size v n xs)
    (A : Option Addr) (m c : Nat) (news : List Value) (hx : a.eval x = .slice A m c) (hl : news.length = m * size) (hA : A = none → m = 0) (hnews : ∀ ad, A = some ad → ∀ j u, news[j]? = some u → w.cell? (ad.add j) = some u)
    (h1 : ∀ u ∈ news, u.oneCell' = true) (h63 : n + m ≤ maxLen) (hbytes : (n + m) * bytes ≤ 140737488355328) (hbase : base ≤ w.heap.size)
    (h : ∀ v' w', w'.ownsRow base e size v' (n + m) (xs ++ news) → w.grownBy w' v.ownBlock → (v'.ownBlock = v.ownBlock ∨ v'.ownBlock = some w.heap.size) → wpList P ops Q rest (a.put o.dst v') w') : wpList P ops Q (o :: rest) a w := by
  cases A with
  | some ad => exact wpList_append_own_at w hgd s x t ho base e i z size bytes ht hi hz hsize hby hzs hsz v n xs hs hown ad m c news hx hl (hnews ad rfl) h1 h63 hbytes hbase fun v' w' h2 h3 _ h5 => h v' w' h2 h3 h5
  | none =>
    obtain rfl := hA rfl
    have hn : news = [] := List.eq_nil_of_length_eq_zero (by simpa using hl)
    subst hn
    refine wpList_plain hgd fun K hK => ?_
    have hrun := run_append_nothing (P := P) w base t o.type e i size ht hi v n xs hown c
    unfold Oper.wp execOp
    simp only [ho, resolve, invoke, builtin, Sem.run_bind, Sem.run_pure, Result.andThen_ok, List.map_toArray, List.map_cons, List.map_nil, hs, hx, hrun]
    exact hK _ _ (h v w (by simpa using hown) (World.grownBy.refl w _) (.inl rfl))
end

/-- The cells of stays, one after the other. -/
def stayCells (l : List Stay) : List Value := l.flatMap fun s => [.int .i64 s.p, .int .i64 s.f, .int .i64 s.t]

theorem stayCells_length (l : List Stay) : (stayCells l).length = l.length * 3 := by
  induction l with
  | nil => rfl
  | cons s l ih => simp only [stayCells, List.flatMap_cons, List.length_append, List.length_cons, List.length_nil] at ih ⊢; omega

theorem stayCells_get (l : List Stay) (k : Nat) (h : k < l.length) : (stayCells l)[k * 3]? = some (.int .i64 l[k].p) ∧ (stayCells l)[k * 3 + 1]? = some (.int .i64 l[k].f) ∧ (stayCells l)[k * 3 + 2]? = some (.int .i64 l[k].t) := by
  induction l generalizing k with
  | nil => simp at h
  | cons s l ih =>
    cases k with
    | zero => simp [stayCells]
    | succ k =>
      have := ih k (by simpa using h)
      have e : stayCells (s :: l) = [.int .i64 s.p, .int .i64 s.f, .int .i64 s.t] ++ stayCells l := rfl
      rw [e, List.getElem?_append_right (by simp; omega), List.getElem?_append_right (by simp; omega), List.getElem?_append_right (by simp; omega)]
      simp only [List.length_cons, List.length_nil, List.getElem_cons_succ]
      rw [show (k + 1) * 3 - (0 + 1 + 1 + 1) = k * 3 by omega, show (k + 1) * 3 + 1 - (0 + 1 + 1 + 1) = k * 3 + 1 by omega, show (k + 1) * 3 + 2 - (0 + 1 + 1 + 1) = k * 3 + 2 by omega]
      exact this

theorem stayCells_one (l : List Stay) : ∀ u ∈ stayCells l, u.oneCell' = true := by
  intro u hu
  simp only [stayCells, List.mem_flatMap, List.mem_cons, List.not_mem_nil, or_false] at hu
  obtain ⟨s, _, rfl | rfl | rfl⟩ := hu <;> rfl

theorem Stays.news {w : World} {B : Nat} {A : Option Addr} {l : List Stay} (h : Stays w B A l) : ∀ ad, A = some ad → ∀ j u, (stayCells l)[j]? = some u → w.cell? (ad.add j) = some u := by
  rintro ad rfl j u hu
  have hj : j < l.length * 3 := by rw [← stayCells_length]; exact (List.getElem?_eq_some_iff.1 hu).1
  have hk : j / 3 < l.length := by omega
  obtain ⟨b, off, e, _, c1, c2, c3⟩ := h (j / 3) hk
  obtain rfl := Option.some.inj e
  obtain ⟨g1, g2, g3⟩ := stayCells_get l (j / 3) hk
  rw [WideShapes.add_plain]
  rcases (show j = j / 3 * 3 ∨ j = j / 3 * 3 + 1 ∨ j = j / 3 * 3 + 2 by omega) with e | e | e
  · rw [e] at hu; rw [g1] at hu; rw [e, ← hu]; exact c1
  · rw [e] at hu; rw [g2] at hu; rw [e, ← hu]; exact c2
  · rw [e] at hu; rw [g3] at hu; rw [e, ← hu]; exact c3
theorem Strs.news {w : World} {B : Nat} {A : Option Addr} {l : List ByteArray} (h : Strs w B A l) : ∀ ad, A = some ad → ∀ j u, (l.map Value.string)[j]? = some u → w.cell? (ad.add j) = some u := by
  rintro ad rfl j u hu
  have hj : j < l.length := by simpa using (List.getElem?_eq_some_iff.1 hu).1
  obtain ⟨b, off, e, _, c1, _⟩ := h j hj
  obtain rfl := Option.some.inj e
  rw [WideShapes.add_plain]
  simp only [List.getElem?_map, List.getElem?_eq_getElem hj, Option.map_some, Option.some.injEq] at hu
  rw [← hu]; exact c1
theorem Strs.none_ {w : World} {B : Nat} {l : List ByteArray} (h : Strs w B none l) : l.length = 0 := by
  rcases Nat.eq_zero_or_pos l.length with h0 | h0
  · exact h0
  · obtain ⟨_, _, e, _⟩ := h 0 h0; cases e
theorem Stays.none_ {w : World} {B : Nat} {l : List Stay} (h : Stays w B none l) : l.length = 0 := by
  rcases Nat.eq_zero_or_pos l.length with h0 | h0
  · exact h0
  · obtain ⟨_, _, e, _⟩ := h 0 h0; cases e

/-- What a row of the call's own holds. -/
theorem strs_of_own {w : World} {base : Nat} {A : Option Addr} {n c : Nat} {l : List ByteArray} (h : w.ownsRow base 9 1 (.slice A n c) n (l.map Value.string)) (hs : ∀ s ∈ l, s.size ≤ maxLen) : Strs w w.heap.size A l := by
  intro k hk
  have hn : n = l.length := by have := h.1; simpa using this.symm
  obtain ⟨g, cap, hv, hb, hlt⟩ := h.form (by omega)
  injection hv with hA
  subst hA
  refine ⟨g, 0, rfl, hlt, ?_, hs _ (List.getElem_mem hk)⟩
  have := h.cells (g := g) rfl k (.string l[k]) (by simp [hk])
  rwa [WideShapes.add_plain] at this
theorem stays_of_own {w : World} {base : Nat} {A : Option Addr} {n c : Nat} {l : List Stay} (h : w.ownsRow base 55 3 (.slice A n c) n (stayCells l)) : Stays w w.heap.size A l := by
  intro k hk
  have hn : n = l.length := by have := h.1; rw [stayCells_length] at this; omega
  obtain ⟨g, cap, hv, hb, hlt⟩ := h.form (by omega)
  injection hv with hA
  subst hA
  obtain ⟨g1, g2, g3⟩ := stayCells_get l k hk
  have c1 := h.cells (g := g) rfl _ _ g1
  have c2 := h.cells (g := g) rfl _ _ g2
  have c3 := h.cells (g := g) rfl _ _ g3
  rw [WideShapes.add_plain] at c1 c2 c3
  exact ⟨g, 0, rfl, hlt, c1, c2, c3⟩

theorem own_slice {w : World} {base : Nat} {e : TypeId} {size n : Nat} {v : Value} {xs : List Value} (h : w.ownsRow base e size v n xs) : ∃ A c, v = .slice A n c := by
  rcases h.2 with ⟨rfl, rfl⟩ | ⟨g, cap, cur, rfl, _⟩
  · exact ⟨_, _, rfl⟩
  · exact ⟨_, _, rfl⟩

theorem stringInfo : (Tryz.prog.info? 9).map (fun i => (i.zero, i.size, i.bytes)) = some (some (.string ByteArray.empty), 1, 16) := by kernel_rfl
theorem stayInfo : (Tryz.prog.info? 55).map (fun i => (i.zero, i.size, i.bytes)) = some (some (.agg #[.int .i64 0, .int .i64 0, .int .i64 0]), 3, 24) := by kernel_rfl

/-- Block g holds just the cells cs. -/
def Blk (w : World) (g : Nat) (cs : Array Value) (t : TypeId) : Prop := w.heap[g]? = some (.cells cs t (0, 0))
theorem Blk.cell {w : World} {g : Nat} {cs : Array Value} {t : TypeId} (h : Blk w g cs t) (i : Nat) : w.cell? ⟨g, i, none⟩ = cs[i]? := by
  unfold Blk at h; simp [World.cell?, h]
theorem Blk.free {w : World} {g : Nat} {cs : Array Value} {t : TypeId} (h : Blk w g cs t) (i : Nat) : w.frozen? ⟨g, i, none⟩ = false := by
  unfold Blk at h; simp [World.frozen?, h]
theorem Blk.set {w : World} {g : Nat} {cs : Array Value} {t : TypeId} (h : Blk w g cs t) (i : Nat) (v : Value) : Blk (w.setCell ⟨g, i, none⟩ v) g (cs.setIfInBounds i v) t := by
  unfold Blk at h ⊢; simp [World.setCell, Array.getElem?_modify, h]
theorem Blk.lt {w : World} {g : Nat} {cs : Array Value} {t : TypeId} (h : Blk w g cs t) : g < w.heap.size := by
  rcases Nat.lt_or_ge g w.heap.size with hlt | hge
  · exact hlt
  · unfold Blk at h; rw [Array.getElem?_eq_none hge] at h; cases h
theorem Blk.alloc {w : World} {g : Nat} {cs : Array Value} {t : TypeId} (h : Blk w g cs t) (o : Obj) : Blk (w.alloc o) g cs t := (Go.heap_alloc_old w o h.lt).trans h
theorem Blk.new (w : World) (cs : Array Value) (t : TypeId) : Blk (w.alloc (.cells cs t)) w.heap.size cs t := heap_alloc_new w _
theorem Blk.below {w w' : World} {B g : Nat} {cs : Array Value} {t : TypeId} (h : Blk w g cs t) (hb : Below B w w') (hg : g < B) : Blk w' g cs t := (hb.block g hg).trans h
theorem Blk.far {w : World} {g : Nat} {cs : Array Value} {t : TypeId} (h : Blk w g cs t) {p : Addr} (hp : g ≠ p.block) (v : Value) : Blk (w.setCell p v) g cs t := by
  unfold Blk at h ⊢; simp [World.setCell, Array.getElem?_modify, h]; intro e; exact absurd e.symm hp

theorem ownsRow_nine {w : World} {base : Nat} {e : TypeId} {size n : Nat} {v : Value} {xs : List Value} (h : w.ownsRow base e size v n xs) {g g' : Nat} (hg : g < base) (hg' : g' < base) {i0 j0 j1 j2 j3 j4 j5 j6 j7 : Nat} {v0 u0 u1 u2 u3 u4 u5 u6 u7 : Value} :
    (((((((((w.setCell ⟨g, i0, none⟩ v0).setCell ⟨g', j0, none⟩ u0).setCell ⟨g', j1, none⟩ u1).setCell ⟨g', j2, none⟩ u2).setCell ⟨g', j3, none⟩ u3).setCell ⟨g', j4, none⟩ u4).setCell ⟨g', j5, none⟩ u5).setCell ⟨g', j6, none⟩ u6).setCell ⟨g', j7, none⟩ u7).ownsRow base e size v n xs := by
  have h1 := ownsRow_setCell_below h (a := ⟨g, i0, none⟩) hg v0
  have h2 := ownsRow_setCell_below h1 (a := ⟨g', j0, none⟩) hg' u0
  have h3 := ownsRow_setCell_below h2 (a := ⟨g', j1, none⟩) hg' u1
  have h4 := ownsRow_setCell_below h3 (a := ⟨g', j2, none⟩) hg' u2
  have h5 := ownsRow_setCell_below h4 (a := ⟨g', j3, none⟩) hg' u3
  have h6 := ownsRow_setCell_below h5 (a := ⟨g', j4, none⟩) hg' u4
  have h7 := ownsRow_setCell_below h6 (a := ⟨g', j5, none⟩) hg' u5
  have h8 := ownsRow_setCell_below h7 (a := ⟨g', j6, none⟩) hg' u6
  exact ownsRow_setCell_below h8 (a := ⟨g', j7, none⟩) hg' u7

end Go.Proofs.YtoinegfcodnjhaaGreatDoor
