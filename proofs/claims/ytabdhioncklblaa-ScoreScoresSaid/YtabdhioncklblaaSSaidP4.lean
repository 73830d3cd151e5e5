/- What lies in memory that is partly stored into. -/
import Derived.Test.YtabdhioncklblaaSPrg8
import Derived.Laws.AppendOwnNone
import Derived.Test.YtabdhioncklblaaSSaidP3
import Derived.Deep.RegionLawGrows
import Derived.Deep.AppendSrc
import Derived.Test.YtabdhioncklblaaSSaidP1

namespace Go.Proofs.Ytabdhioncklblaa
open Go.RowKit Go.Maps

/-- All blocks with P stay. -/
structure Fr (P : Nat → Prop) (w w' : World) : Prop where
  size : w.heap.size ≤ w'.heap.size
  blk : ∀ b, b < w.heap.size → P b → w'.heap[b]? = w.heap[b]?
section
variable {P Q : Nat → Prop} {w w' w'' : World}
theorem Fr.refl (P : Nat → Prop) (w : World) : Fr P w w := ⟨Nat.le_refl _, fun _ _ _ => rfl⟩
theorem Fr.trans (h : Fr P w w') (h' : Fr P w' w'') : Fr P w w'' := ⟨Nat.le_trans h.size h'.size, fun b hb hp => (h'.blk b (Nat.lt_of_lt_of_le hb h.size) hp).trans (h.blk b hb hp)⟩
theorem Fr.below (h : Below w.heap.size w w') : Fr P w w' := ⟨h.size, fun b hb _ => h.block b hb⟩
theorem Fr.set {p : Addr} (hp : ¬ P p.block) (v : Value) : Fr P w (w.setCell p v) := ⟨by simp, fun b _ hb => Below.heap_setCell _ _ _ _ (fun e => hp (e ▸ hb))⟩
theorem Fr.grown {row : Option Nat} (h : w.grownBy w' row) (hr : ∀ b, P b → some b ≠ row) : Fr P w w' := ⟨h.size, fun b hb hp => h.block b hb (hr b hp)⟩
theorem Fr.imp (h : Fr P w w') (hq : ∀ b, Q b → P b) : Fr Q w w' := ⟨h.size, fun b hb hp => h.blk b hb (hq b hp)⟩
theorem Fr.cell (h : Fr P w w') {b o : Nat} (hb : b < w.heap.size) (hp : P b) : w'.cell? ⟨b, o, none⟩ = w.cell? ⟨b, o, none⟩ := World.cell?_of_block (h.blk b hb hp)
end
def FlatP {α : Type} (n : Nat) (f : α → List Value) (w : World) (P : Nat → Prop) (A : Option Addr) (l : List α) : Prop :=
  ∀ k, (h : k < l.length) → ∃ b off, A = some ⟨b, off, none⟩ ∧ b < w.heap.size ∧ P b ∧ ∀ i, i < n → w.cell? ⟨b, off + k * n + i, none⟩ = (f l[k])[i]?
section
variable {α : Type} {n : Nat} {f : α → List Value} {w w' : World} {P Q : Nat → Prop} {A : Option Addr} {l : List α}
theorem FlatP.flat (h : FlatP n f w P A l) : Flat n f w w.heap.size A l := fun k hk => by
  obtain ⟨b, off, e, h2, _, h4⟩ := h k hk
  exact ⟨b, off, e, h2, h4⟩
theorem FlatP.move (h : FlatP n f w P A l) (hf : Fr P w w') : FlatP n f w' P A l := fun k hk => by
  obtain ⟨b, off, e, h1, h2, h3⟩ := h k hk
  exact ⟨b, off, e, Nat.lt_of_lt_of_le h1 hf.size, h2, fun i hi => (hf.cell h1 h2).trans (h3 i hi)⟩
theorem FlatP.imp (h : FlatP n f w P A l) (hq : ∀ b, b < w.heap.size → P b → Q b) : FlatP n f w Q A l := fun k hk => by
  obtain ⟨b, off, e, h1, h2, h3⟩ := h k hk
  exact ⟨b, off, e, h1, hq b h1 h2, h3⟩
theorem FlatP.of_flat {B : Nat} (h : Flat n f w B A l) (hB : B ≤ w.heap.size) (hP : ∀ b, b < B → P b) : FlatP n f w P A l := fun k hk => by
  obtain ⟨b, off, e, h1, h3⟩ := h k hk
  exact ⟨b, off, e, Nat.lt_of_lt_of_le h1 hB, hP b h1, h3⟩
theorem FlatP.of_own (hn : ∀ x, (f x).length = n) (h0 : 0 < n) {base : Nat} {c : Nat} {t : TypeId} (h : w.ownsRow base t n (.slice A l.length c) l.length (l.flatMap f)) (hP : ∀ b, base ≤ b → b < w.heap.size → (Value.slice A l.length c).ownBlock = some b → P b) : FlatP n f w P A l := fun k hk => by
  obtain ⟨b, off, e, h2, h4⟩ := Flat.of_own hn h0 h k hk
  subst e
  have h5 := h.lt b rfl
  exact ⟨b, off, rfl, h2, hP b h5.1 h2 rfl, h4⟩
theorem FlatP.news (hn : ∀ x, (f x).length = n) (h0 : 0 < n) (h : FlatP n f w P A l) : ∀ ad, A = some ad → ∀ j u, (l.flatMap f)[j]? = some u → w.cell? (ad.add j) = some u := Flat.news hn h0 h.flat
theorem FlatP.none_ (h : FlatP n f w P none l) : l.length = 0 := Flat.none_ h.flat
end
structure SclP (w : World) (P : Nat → Prop) (x : SclD) : Prop where
  cuts : FlatP 1 intC w P x.A x.v.cuts
  pts : FlatP 1 intC w P x.B x.v.pts
structure SclsP (w : World) (P : Nat → Prop) (A : Option Addr) (l : List SclD) : Prop where
  row : FlatP 3 sclC w P A l
  each : ∀ x ∈ l, SclP w P x
section
variable {w w' : World} {P Q : Nat → Prop}
theorem SclP.move {x : SclD} (h : SclP w P x) (hf : Fr P w w') : SclP w' P x := ⟨h.cuts.move hf, h.pts.move hf⟩
theorem SclP.imp {x : SclD} (h : SclP w P x) (hq : ∀ b, b < w.heap.size → P b → Q b) : SclP w Q x := ⟨h.cuts.imp hq, h.pts.imp hq⟩
theorem SclsP.move {A : Option Addr} {l : List SclD} (h : SclsP w P A l) (hf : Fr P w w') : SclsP w' P A l := ⟨h.row.move hf, fun x hx => (h.each x hx).move hf⟩
theorem SclsP.imp {A : Option Addr} {l : List SclD} (h : SclsP w P A l) (hq : ∀ b, b < w.heap.size → P b → Q b) : SclsP w Q A l := ⟨h.row.imp hq, fun x hx => (h.each x hx).imp hq⟩
theorem SclsP.at_ {A : Option Addr} {l : List SclD} (h : SclsP w P A l) : SclsAt w w.heap.size A l := ⟨h.row.flat, fun x hx => ⟨(h.each x hx).cuts.flat, (h.each x hx).pts.flat⟩⟩
theorem SclsP.of_at {B : Nat} {A : Option Addr} {l : List SclD} (h : SclsAt w B A l) (hB : B ≤ w.heap.size) (hP : ∀ b, b < B → P b) : SclsP w P A l := ⟨.of_flat h.row hB hP, fun x hx => ⟨.of_flat (h.each x hx).cuts hB hP, .of_flat (h.each x hx).pts hB hP⟩⟩
end
theorem cardInfo : (Try.prog.info? 45).map (fun i => (i.zero, i.size, i.bytes)) = some (some (.agg #[.int .i64 0, .int .i64 0, .slice none 0 0]), 3, 40) := by kernel_rfl
theorem treeInfo : (Try.prog.info? 50).map (fun i => (i.zero, i.size, i.bytes)) = some (some (.agg #[.int .i64 0, .slice none 0 0]), 2, 32) := by kernel_rfl
theorem scaleInfo : (Try.prog.info? 47).map (fun i => (i.zero, i.size, i.bytes)) = some (some (.agg #[.slice none 0 0, .slice none 0 0, .int .i64 0]), 3, 56) := by kernel_rfl
theorem nodeInfo : (Try.prog.info? 66).map (fun i => (i.zero, i.size, i.bytes)) = some (some (.agg #[.int .i64 0, .int .i64 0, .int .i64 0, .int .i64 0, .int .i64 0]), 5, 40) := by kernel_rfl
/-- An element of an owned row, turned. -/
theorem flat_set {α : Type} {f : α → List Value} {n : Nat} (hn : ∀ x, (f x).length = n) : ∀ (l : List α) (k : Nat) (h : k < l.length) (y : α) (j : Nat) (u : Value), j < n → f y = (f l[k]).set j u → (l.set k y).flatMap f = (l.flatMap f).set (k * n + j) u
  | x :: l, 0, _, y, j, u, hj, e => by
    show f y ++ l.flatMap f = (f x ++ l.flatMap f).set (0 * n + j) u
    rw [Nat.zero_mul, Nat.zero_add, List.set_append_left _ _ (by rw [hn]; exact hj)]
    congr 1
  | x :: l, k + 1, h, y, j, u, hj, e => by
    have h1 := flat_set hn l k (by simpa using h) y j u hj e
    have e2 : (k + 1) * n + j = (f x).length + (k * n + j) := by rw [hn, Nat.succ_mul]; omega
    show f x ++ (l.set k y).flatMap f = (f x ++ l.flatMap f).set ((k + 1) * n + j) u
    rw [h1, e2, List.set_append_right _ _ (by omega), Nat.add_sub_cancel_left]
section
variable {P : Program} (w : World)
/-- Nothing is appended to a row of the call's own. -/
theorem run_append_nothing (base : Nat) (t ty e : TypeId) (i : TypeInfo) (size : Nat) (ht : P.underlying t = some (.slice e)) (hi : P.info? e = some i)
    (v : Value) (n : Nat) (xs : List Value) (hown : w.ownsRow base e size v n xs) (c : Nat) : (Builtin.append_ #[t, t] ty #[v, .slice none 0 c]).run P w = .ok v w := by
  rcases hown.2 with ⟨rfl, rfl⟩ | ⟨g, cap, cur, rfl, _, _, hnc, _⟩
  · simp [Builtin.append_, run_underlying ht, sizeOf, typeInfo, hi, Builtin.lenOf, Builtin.firstCells]
  · simp [Builtin.append_, run_underlying ht, sizeOf, typeInfo, hi, Builtin.lenOf, Builtin.firstCells, hnc, storeCells]

/-- 'append(out, src...)', out the call's own, src whatever: nil, empty or not. -/
theorem wpList_append_src {ops : Array Oper} {rest : List Oper} {o : Oper} {a : Act} {Q : Exit → Act → World → Prop} (hgd : o.guard = none) (s x : Operand) (t : TypeId)
    (ho : o.op = .call { callee := .builtin .append, args := #[s, x], argTypes := #[t, t] })
    (base : Nat) (e : TypeId) (i : TypeInfo) (z : Value) (size bytes : Nat) (ht : P.underlying t = some (.slice e)) (hi : P.info? e = some i) (hz : i.zero = some z)
    (hsize : i.size = size) (hby : i.bytes = bytes) (hzs : z.cells.size = size) (hsz : 0 < size)
    (v : Value) (n : Nat) (xs : List Value) (hs : a.eval s = v) (hown : w.ownsRow base e size v n xs)
    (A : Option Addr) (m c : Nat) (news : List Value) (hx : a.eval x = .slice A m c) (hl : news.length = m * size) (hA : A = none → m = 0) (hnews : ∀ ad, A = some ad → ∀ j u, news[j]? = some u → w.cell? (ad.add j) = some u)
    (h1 : ∀ u ∈ news, u.oneCell' = true) (h63 : n + m ≤ maxLen) (hbytes : (n + m) * bytes ≤ 140737488355328) (hbase : base ≤ w.heap.size)
    (h : ∀ v' w', w'.ownsRow base e size v' (n + m) (xs ++ news) → w.grownBy w' v.ownBlock → (v'.ownBlock = v.ownBlock ∨ v'.ownBlock = some w.heap.size) → wpList P ops Q rest (a.put o.dst v') w') : wpList P ops Q (o :: rest) a w := by
  cases A with
  | some ad => exact wpList_append_own_at w hgd s x t ho base e i z size bytes ht hi hz hsize hby hzs hsz v n xs hs hown ad m c news hx hl (hnews ad rfl) h1 h63 hbytes hbase fun v' w' h2 h3 _ h5 => h v' w' h2 h3 h5
  | none =>
    obtain rfl := hA rfl
    have hn : news = [] := List.eq_nil_of_length_eq_zero (by simpa using hl)
    subst hn
    refine wpList_plain hgd fun K hK => ?_
    have hrun := run_append_nothing (P := P) w base t o.type e i size ht hi v n xs hown c
    unfold Oper.wp execOp
    simp only [ho, resolve, invoke, builtin, Sem.run_bind, Sem.run_pure, Result.andThen_ok, List.map_toArray, List.map_cons, List.map_nil, hs, hx, hrun]
    exact hK _ _ (h v w (by simpa using hown) (World.grownBy.refl w _) (.inl rfl))
end
/-- 'append(out, src...)' at a step of a region that draws. -/
theorem step_append_src {P : Program} {w : World} {ops : Array Oper} {o : Oper} {a : Act} {K : Act → World → Prop} {Q : Exit → Act → World → Prop} {E : Prop} (hgd : o.guard = none) (s x : Operand) (t : TypeId)
    (ho : o.op = .call { callee := .builtin .append, args := #[s, x], argTypes := #[t, t] })
    (base : Nat) (e : TypeId) (i : TypeInfo) (z : Value) (size bytes : Nat) (ht : P.underlying t = some (.slice e)) (hi : P.info? e = some i) (hz : i.zero = some z)
    (hsize : i.size = size) (hby : i.bytes = bytes) (hzs : z.cells.size = size) (hsz : 0 < size)
    (v : Value) (n : Nat) (xs : List Value) (hs : a.eval s = v) (hown : w.ownsRow base e size v n xs)
    (A : Option Addr) (m c : Nat) (news : List Value) (hx : a.eval x = .slice A m c) (hl : news.length = m * size) (hA : A = none → m = 0) (hnews : ∀ ad, A = some ad → ∀ j u, news[j]? = some u → w.cell? (ad.add j) = some u)
    (h1 : ∀ u ∈ news, u.oneCell' = true) (h63 : n + m ≤ maxLen) (hbytes : (n + m) * bytes ≤ 140737488355328) (hbase : base ≤ w.heap.size)
    (h : ∀ v' w', w'.ownsRow base e size v' (n + m) (xs ++ news) → w.grownBy w' v.ownBlock → (v'.ownBlock = v.ownBlock ∨ v'.ownBlock = some w.heap.size) → K (a.put o.dst v') w') :
    if Region.wanted o (yielded ops a.tmps) = true then Oper.wp P o a w K Q else E := by
  have hw : Region.wanted o (yielded ops a.tmps) = true := by simp [Region.wanted, hgd]
  rw [if_pos hw]
  cases A with
  | some ad =>
    obtain ⟨v', w', hr, h2, h3, _, h5⟩ := run_append_own_at (P := P) w base t o.type e i z size bytes ht hi hz hsize hby hzs hsz v n xs hown ad m c news hl (hnews ad rfl) h1 h63 hbytes hbase
    unfold Oper.wp execOp
    simp only [ho, resolve, invoke, builtin, Sem.run_bind, Sem.run_pure, Result.andThen_ok, List.map_toArray, List.map_cons, List.map_nil, hs, hx, hr]
    exact h v' w' h2 h3 h5
  | none =>
    obtain rfl := hA rfl
    have hn : news = [] := List.eq_nil_of_length_eq_zero (by simpa using hl)
    subst hn
    have hrun := run_append_nothing (P := P) w base t o.type e i size ht hi v n xs hown c
    unfold Oper.wp execOp
    simp only [ho, resolve, invoke, builtin, Sem.run_bind, Sem.run_pure, Result.andThen_ok, List.map_toArray, List.map_cons, List.map_nil, hs, hx, hrun]
    exact h v w (by simpa using hown) (World.grownBy.refl w _) (.inl rfl)
theorem own_drew {w : World} {base : Nat} {e : TypeId} {size n : Nat} {v : Value} {xs : List Value} (h : w.ownsRow base e size v n xs) : w.drew.ownsRow base e size v n xs := h
end Go.Proofs.Ytabdhioncklblaa

namespace Go.Proofs.Ytabdhioncklblaa
open Go.RowKit Go.Maps

theorem mod4_put {w : World} {g : Nat} {a0 a1 a2 a3 c1 : Value} {t : TypeId} (h : Blk w g #[a0, a1, a2, a3] t) : Blk (w.setCell ⟨g, 1, none⟩ c1) g #[a0, c1, a2, a3] t := by
  have := h.set 1 c1
  simpa using this
/-- Neither the model's block nor the answer's, nor a row's. -/
def Nt (b0 : Nat) (row : Option Nat) (b : Nat) : Prop := (b < b0 ∨ b0 + 1 < b) ∧ some b ≠ row
/-- The cards, of which some are new. -/
structure TB (b0 : Nat) (wr : World) (A1 : Option Addr) (n c1 : Nat) (cl ml : List CrdD) : Prop where
  eq : ml.map CrdD.v = cl.map CrdD.v
  len : ml.length = n
  own : wr.ownsRow (b0 + 1 + 1) 45 3 (.slice A1 n c1) n (ml.flatMap crdC)
  each : ∀ x ∈ ml, SclsP wr (Nt b0 (Value.slice A1 n c1).ownBlock) x.S x.scales

/-- The scales of one card, of which some are new. -/
structure SI (b0 g lo : Nat) (wr : World) (S1 : Option Addr) (n s1 : Nat) (sl sl2 : List SclD) : Prop where
  eq : sl2.map SclD.v = sl.map SclD.v
  len : sl2.length = n
  own : wr.ownsRow lo 47 3 (.slice S1 n s1) n (sl2.flatMap sclC)
  each : ∀ x ∈ sl2, SclP wr (fun b => Nt b0 (some g) b ∧ some b ≠ (Value.slice S1 n s1).ownBlock) x
theorem grown_fresh {B g n c : Nat} {w W w' : World} (hg : W.grownBy w' (Value.slice (some ⟨g, 0, none⟩) n c).ownBlock) (hB : Below B w W) (hb : B ≤ W.heap.size) (hBg : B ≤ g) : Below B w w' := hB.grown hg hb (fun k e => by have e2 : g = k := Option.some.inj e; omega)
theorem blk_fresh {g g' n c : Nat} {W w' : World} {cs : Array Value} {t : TypeId} (hg : W.grownBy w' (Value.slice (some ⟨g, 0, none⟩) n c).ownBlock) (h : Blk W g' cs t) (hne : g' ≠ g) : Blk w' g' cs t := h.grown hg (fun e => hne (Option.some.inj e))
theorem own_blk {W : World} {g base size : Nat} {t : TypeId} (h : Blk W g #[] t) (hb : base ≤ g) : W.ownsRow base t size (.slice (some ⟨g, 0, none⟩) 0 0) 0 [] :=
  ⟨by simp, .inr ⟨g, 0, #[], rfl, hb, h, Nat.le_refl _, by simp [maxLen], by simp, by simp⟩⟩

theorem own_fr {w w' : World} {P : Nat → Prop} {base : Nat} {e : TypeId} {size n : Nat} {v : Value} {xs : List Value} (h : w.ownsRow base e size v n xs) (hF : Fr P w w') (hP : ∀ g, v.ownBlock = some g → P g) : w'.ownsRow base e size v n xs := by
  refine ⟨h.1, ?_⟩
  rcases h.2 with h0 | ⟨g, cap, cur, h1, h2, h3, h4⟩
  · exact .inl h0
  · exact .inr ⟨g, cap, cur, h1, h2, (hF.blk g (Array.getElem?_eq_some_iff.1 h3).1 (hP g (by rw [h1]; rfl))).trans h3, h4⟩
theorem map_set_same {α β : Type} (f : α → β) (l : List α) (i : Nat) (h : i < l.length) (y : α) (hy : f y = f l[i]) : (l.set i y).map f = l.map f := by
  apply List.ext_getElem
  · simp
  · intro q h1 h2
    rw [List.getElem_map, List.getElem_map, List.getElem_set]
    split
    · rename_i e; subst e; exact hy
    · rfl
theorem tb_set {b0 g i n c1 s s1 : Nat} {w0 wc we : World} {cl ml : List CrdD} {wt base : Int} {sl sl2 : List SclD} {S S1 : Option Addr} (HT : TB b0 w0 (some ⟨g, 0, none⟩) n c1 cl ml) (hi : i < ml.length) (hY : ml[i] = ⟨wt, base, sl, S, s⟩)
    (oC : wc.ownsRow (b0 + 1 + 1) 45 3 (.slice (some ⟨g, 0, none⟩) n c1) n ((ml.flatMap crdC).set (i * 3 + 2) (.slice S1 sl.length s1))) (hF : Fr (fun b => b ≠ g) w0 wc) (hFk : Fr (fun b => some b ≠ (Value.slice S1 sl.length s1).ownBlock) wc we)
    (HS : SI b0 g w0.heap.size we S1 sl.length s1 sl sl2) (hb0 : b0 + 1 < w0.heap.size) (hg : g < w0.heap.size) : TB b0 we (some ⟨g, 0, none⟩) n c1 cl (ml.set i ⟨wt, base, sl2, S1, s1⟩) := by
  have hS1 : ∀ b, b < w0.heap.size → some b ≠ (Value.slice S1 sl.length s1).ownBlock := fun b hb e => by have := (HS.own.lt b e.symm).1; omega
  refine ⟨?_, by rw [List.length_set]; exact HT.len, ?_, fun x hx => ?_⟩
  · rw [map_set_same CrdD.v ml i hi _ (by rw [hY]; simp only [CrdD.v]; rw [HS.eq]), HT.eq]
  · have e := flat_set crdC_len ml i hi ⟨wt, base, sl2, S1, s1⟩ 2 (.slice S1 sl.length s1) (by omega) (by rw [hY]; simp only [crdC]; rw [HS.len]; rfl)
    rw [e]
    exact own_fr oC hFk (fun g' e' => by cases e'; exact hS1 g hg)
  · rcases List.mem_or_eq_of_mem_set hx with h1 | h1
    · have h2 := (HT.each x h1).imp (Q := fun b => Nt b0 (some g) b ∧ some b ≠ (Value.slice S1 sl.length s1).ownBlock) (fun b hb hp => ⟨hp, hS1 b hb⟩)
      exact ((h2.move (hF.imp (fun b hp e => hp.1.2 (by rw [e])))).move (hFk.imp (fun b hp => hp.2))).imp (fun b _ hp => hp.1)
    · subst h1
      refine ⟨?_, fun y hy => (HS.each y hy).imp (fun b _ hp => hp.1)⟩
      have h3 := HS.own
      rw [← HS.len] at h3
      exact FlatP.of_own sclC_len (by decide) h3 (fun b hb1 _ _ => ⟨.inr (by omega), fun e' => by have e2 : b = g := Option.some.inj e'; omega⟩)
/-- What is appended to one row stays when another row is appended to. -/
theorem own_over {lo f9 n size : Nat} {w8 W2 w9 : World} {e : TypeId} {v : Value} {xs : List Value} {row : Option Nat} (h8 : w8.ownsRow lo e size v n xs) (hB : Below w8.heap.size w8 W2) (hg : W2.grownBy w9 row) (hr : row = some f9) (hne : ∀ b, v.ownBlock = some b → b ≠ f9) : w9.ownsRow lo e size v n xs := by
  subst hr
  have h2 := own_below h8 hB
  refine ⟨h2.1, ?_⟩
  rcases h2.2 with h0 | ⟨g, cap, cur, h1, h3, h4, h5⟩
  · exact .inl h0
  · exact .inr ⟨g, cap, cur, h1, h3, (hg.block g (Array.getElem?_eq_some_iff.1 h4).1 (fun e' => hne g (by rw [h1]; rfl) (Option.some.inj e'))).trans h4, h5⟩
/-- Its block is the fresh one, or newer than all. -/
theorem fresh_ne {v : Value} {f8 f9 s : Nat} {r : Option Nat} (ho : v.ownBlock = r ∨ v.ownBlock = some s) (hr : r = some f8) (h1 : f8 ≠ f9) (h2 : s ≠ f9) : ∀ b, v.ownBlock = some b → b ≠ f9 := by
  subst hr
  intro b hb
  rcases ho with e | e <;> (rw [hb] at e; have := Option.some.inj e; omega)
/-- A scale in new memory. -/
theorem si_put {b0 g lo k n s1 gs q8 q9 a b : Nat} {w0 w9 : World} {sl sl2 : List SclD} {v : Scl} {A B A8 A9 : Option Addr} (HS : SI b0 g lo w0 (some ⟨gs, 0, none⟩) n s1 sl sl2) (hk : k < sl2.length) (hz : sl2[k] = ⟨v, A, a, B, b⟩) (hgs : gs < w0.heap.size) (hlo : lo ≤ gs) (h0 : b0 + 1 < w0.heap.size) (hg0 : g < w0.heap.size)
    (hb9 : Below w0.heap.size w0 w9) (h8 : w9.ownsRow w0.heap.size 3 1 (.slice A8 v.cuts.length q8) v.cuts.length (v.cuts.flatMap intC)) (h9 : w9.ownsRow w0.heap.size 3 1 (.slice A9 v.pts.length q9) v.pts.length (v.pts.flatMap intC)) :
    SI b0 g lo ((w9.setCell ⟨gs, k * 3, none⟩ (.slice A8 v.cuts.length q8)).setCell ⟨gs, k * 3 + 1, none⟩ (.slice A9 v.pts.length q9)) (some ⟨gs, 0, none⟩) n s1 sl (sl2.set k ⟨v, A8, q8, A9, q9⟩) := by
  have hF : Fr (fun b => b ≠ gs) w9 ((w9.setCell ⟨gs, k * 3, none⟩ (.slice A8 v.cuts.length q8)).setCell ⟨gs, k * 3 + 1, none⟩ (.slice A9 v.pts.length q9)) := (Fr.set (p := ⟨gs, k * 3, none⟩) (fun e => e rfl) _).trans (Fr.set (p := ⟨gs, k * 3 + 1, none⟩) (fun e => e rfl) _)
  refine ⟨?_, by rw [List.length_set]; exact HS.len, ?_, fun x hx => ?_⟩
  · rw [map_set_same SclD.v sl2 k hk _ (by rw [hz]), HS.eq]
  · have e1 := flat_set sclC_len sl2 k hk ⟨v, A8, q8, B, b⟩ 0 (.slice A8 v.cuts.length q8) (by omega) (by rw [hz]; rfl)
    have e2 := flat_set sclC_len (sl2.set k ⟨v, A8, q8, B, b⟩) k (by rw [List.length_set]; exact hk) ⟨v, A8, q8, A9, q9⟩ 1 (.slice A9 v.pts.length q9) (by omega) (by rw [List.getElem_set_self]; rfl)
    rw [List.set_set] at e2
    rw [e2, e1, Nat.add_zero]
    exact (((own_below HS.own hb9).stored (k * 3) (.slice A8 v.cuts.length q8)).1.stored (k * 3 + 1) (.slice A9 v.pts.length q9)).1
  · have hP : ∀ b, w0.heap.size ≤ b → Nt b0 (some g) b ∧ some b ≠ (Value.slice (some ⟨gs, 0, none⟩) n s1).ownBlock := fun b hb => ⟨⟨.inr (by omega), fun e => by have := Option.some.inj e; omega⟩, fun e => by have e2 : b = gs := Option.some.inj e; omega⟩
    rcases List.mem_or_eq_of_mem_set hx with h1 | h1
    · exact ((HS.each x h1).move (Fr.below hb9)).move (hF.imp (fun b hp e => hp.2 (by rw [e]; rfl)))
    · subst h1
      refine ⟨(FlatP.of_own intC_len (by decide) h8 (fun b hb _ _ => hP b hb)).move (hF.imp (fun b hp e => hp.2 (by rw [e]; rfl))), (FlatP.of_own intC_len (by decide) h9 (fun b hb _ _ => hP b hb)).move (hF.imp (fun b hp e => hp.2 (by rw [e]; rfl)))⟩
end Go.Proofs.Ytabdhioncklblaa

namespace Go.Proofs.Ytabdhioncklblaa
open Go.RowKit Go.Maps

theorem Fr.of_below {P : Nat → Prop} {B : Nat} {w w' : World} (h : Below B w w') (hP : ∀ b, P b → b < B) : Fr P w w' := ⟨h.size, fun b _ hp => h.block b (hP b hp)⟩
/-- Cards in blocks with P. -/
structure CP (w : World) (P : Nat → Prop) (A : Option Addr) (l : List CrdD) : Prop where
  row : FlatP 3 crdC w P A l
  each : ∀ x ∈ l, SclsP w P x.S x.scales
section
variable {w w' : World} {P Q : Nat → Prop} {A : Option Addr} {l : List CrdD}
theorem CP.move (h : CP w P A l) (hf : Fr P w w') : CP w' P A l := ⟨h.row.move hf, fun x hx => (h.each x hx).move hf⟩
theorem CP.imp (h : CP w P A l) (hq : ∀ b, b < w.heap.size → P b → Q b) : CP w Q A l := ⟨h.row.imp hq, fun x hx => (h.each x hx).imp hq⟩
theorem CP.at_ (h : CP w P A l) : CrdsAt w w.heap.size A l := ⟨h.row.flat, fun x hx => (h.each x hx).at_⟩
end
theorem TB.cp {b0 n c1 : Nat} {w : World} {A1 : Option Addr} {cl ml : List CrdD} (h : TB b0 w A1 n c1 cl ml) : CP w (fun b => b < b0 ∨ b0 + 1 < b) A1 ml := by
  have h1 := h.own
  rw [← h.len] at h1
  exact ⟨FlatP.of_own crdC_len (by decide) h1 (fun b hb _ _ => .inr (by omega)), fun x hx => (h.each x hx).imp (fun b _ hp => hp.1)⟩
/-- The trees, of which some are new. -/
structure TTB (b0 lo : Nat) (wr : World) (T1 : Option Addr) (n t1 : Nat) (tl ml : List TreD) : Prop where
  eq : ml.map TreD.v = tl.map TreD.v
  len : ml.length = n
  own : wr.ownsRow lo 50 2 (.slice T1 n t1) n (ml.flatMap treC)
  each : ∀ x ∈ ml, FlatP 5 nodC wr (Nt b0 (Value.slice T1 n t1).ownBlock) x.T x.v.nodes
theorem tt_put {b0 lo i n t1 g s1 t0 : Nat} {wr w8 : World} {tl ml : List TreD} {v : Tre} {T0 S1 : Option Addr} (HT : TTB b0 lo wr (some ⟨g, 0, none⟩) n t1 tl ml) (hi : i < ml.length) (hz : ml[i] = ⟨v, T0, t0⟩) (hg : g < wr.heap.size) (h0 : b0 + 1 < wr.heap.size)
    (hb8 : Below wr.heap.size wr w8) (h8 : w8.ownsRow wr.heap.size 66 5 (.slice S1 v.nodes.length s1) v.nodes.length (v.nodes.flatMap nodC)) :
    TTB b0 lo (w8.setCell ⟨g, i * 2 + 1, none⟩ (.slice S1 v.nodes.length s1)) (some ⟨g, 0, none⟩) n t1 tl (ml.set i ⟨v, S1, s1⟩) := by
  have hF : Fr (fun b => b ≠ g) w8 (w8.setCell ⟨g, i * 2 + 1, none⟩ (.slice S1 v.nodes.length s1)) := Fr.set (p := ⟨g, i * 2 + 1, none⟩) (fun e => e rfl) _
  refine ⟨?_, by rw [List.length_set]; exact HT.len, ?_, fun x hx => ?_⟩
  · rw [map_set_same TreD.v ml i hi _ (by rw [hz]), HT.eq]
  · have e1 := flat_set treC_len ml i hi ⟨v, S1, s1⟩ 1 (.slice S1 v.nodes.length s1) (by omega) (by rw [hz]; rfl)
    rw [e1]
    exact ((own_below HT.own hb8).stored (i * 2 + 1) (.slice S1 v.nodes.length s1)).1
  · rcases List.mem_or_eq_of_mem_set hx with h1 | h1
    · exact ((HT.each x h1).move (Fr.below hb8)).move (hF.imp (fun b hp e => hp.2 (by rw [e]; rfl)))
    · subst h1
      exact (FlatP.of_own nodC_len (by decide) h8 (fun b hb _ _ => (⟨.inr (by omega), fun e => by have e2 : b = g := Option.some.inj e; omega⟩ : Nt b0 (some g) b))).move (hF.imp (fun b hp e => hp.2 (by rw [e])))
theorem TTB.at_ {b0 lo n t1 : Nat} {wr : World} {T1 : Option Addr} {tl ml : List TreD} (h : TTB b0 lo wr T1 n t1 tl ml) : TresAt wr wr.heap.size T1 ml := by
  have h1 := h.own
  rw [← h.len] at h1
  exact ⟨Flat.of_own treC_len (by decide) h1, fun x hx => (h.each x hx).flat⟩
/-- What the twin of a model is. -/
def TwinS (w : World) (traits need : Int) (cl : List CrdD) (tl : List TreD) (e : Ending) (w' : World) : Prop :=
  ∃ cl' tl' C' c' T' t', e = .returned (.agg #[.int .i64 traits, .slice C' (List.length cl') c', .slice T' (List.length tl') t', .int .i64 need]) ∧ cl'.map CrdD.v = cl.map CrdD.v ∧ tl'.map TreD.v = tl.map TreD.v ∧ MdlAt w' w'.heap.size ⟨traits, cl', C', c', tl', T', t', need⟩ ∧ Below w.heap.size w w'
/-- As large as the other one. -/
theorem MdlLe.twin {traits traits' need need' : Int} {cl cl' : List CrdD} {tl tl' : List TreD} {C C' T T' : Option Addr} {c c' t t' : Nat} (h : MdlLe ⟨traits, cl, C, c, tl, T, t, need⟩) (hc : cl'.map CrdD.v = cl.map CrdD.v) (ht : tl'.map TreD.v = tl.map TreD.v) : MdlLe ⟨traits', cl', C', c', tl', T', t', need'⟩ := by
  have e1 : cl'.length = cl.length := by simpa using congrArg List.length hc
  have e2 : tl'.length = tl.length := by simpa using congrArg List.length ht
  have hcm : ∀ x ∈ cl', ∃ y ∈ cl, x.scales.map SclD.v = y.scales.map SclD.v := fun x hx => by
    have h1 : x.v ∈ cl.map CrdD.v := by rw [← hc]; exact List.mem_map_of_mem hx
    obtain ⟨y, hy, e⟩ := List.mem_map.1 h1
    exact ⟨y, hy, (congrArg Crd.scales e).symm⟩
  refine ⟨?_, ?_, fun x hx => ?_, fun x hx s hs => ?_, fun x hx => ?_⟩
  · have := h.cards; simp only at this ⊢; omega
  · have := h.trees; simp only at this ⊢; omega
  · obtain ⟨y, hy, e⟩ := hcm x hx
    have h2 : x.scales.length = y.scales.length := by simpa using congrArg List.length e
    rw [h2]
    exact h.scales y hy
  · obtain ⟨y, hy, e⟩ := hcm x hx
    have h2 : s.v ∈ y.scales.map SclD.v := by rw [← e]; exact List.mem_map_of_mem hs
    obtain ⟨z, hz, e3⟩ := List.mem_map.1 h2
    rw [← e3]
    exact h.scl y hy z hz
  · have h1 : x.v ∈ tl.map TreD.v := by rw [← ht]; exact List.mem_map_of_mem hx
    obtain ⟨y, hy, e⟩ := List.mem_map.1 h1
    rw [← e]
    exact h.nodes y hy
end Go.Proofs.Ytabdhioncklblaa

namespace Go.Proofs.Ytabdhioncklblaa
open Go.RowKit Go.Maps

def scN (m : Mdl) (x : List Int) : Int := if forE m x = 0 then scoreM m x else 0
def scY (m : Mdl) (x : List Int) : Bool := if forE m x = 0 then decide (1000 * m.need ≤ scoreM m x) else false
def ptL (m : Mdl) (x : List Int) : List Int := if forE m x = 0 then ptsL m x else []
theorem forE_zero {m : Mdl} {x : List Int} (h : forE m x = 0) : mdlB m = true ∧ valsB m.traits x = true := by
  unfold forE at h
  by_cases h1 : mdlB m = true
  · rw [if_pos h1] at h
    by_cases h2 : valsB m.traits x = true
    · exact ⟨h1, h2⟩
    · rw [if_neg h2] at h; omega
  · rw [if_neg h1] at h; omega
theorem mdlB_parts {m : Mdl} (h : mdlB m = true) : (1 ≤ m.traits ∧ m.traits ≤ 5) ∧ (-1000000 ≤ m.need ∧ m.need ≤ 1000000) ∧ m.cards.length ≤ 2 ∧ m.trees.length ≤ 2 ∧ (∀ c ∈ m.cards, crdB m.traits c = true) ∧ ∀ t ∈ m.trees, treB m.traits t = true := by
  unfold mdlB at h
  simp only [Bool.and_eq_true, decide_eq_true_eq, List.all_eq_true] at h
  exact ⟨inN_iff.1 h.1.1.1.1.1, ptB_iff.1 h.1.1.1.1.2, h.1.1.1.2, h.1.1.2, h.1.2, h.2⟩
theorem valsB_len {traits : Int} {x : List Int} (h : valsB traits x = true) : (x.length : Int) = traits := by
  unfold valsB at h
  simp only [Bool.and_eq_true, decide_eq_true_eq] at h
  exact h.1
theorem scoreM_bound {m : Mdl} {x : List Int} (h : mdlB m = true) (hv : valsB m.traits x = true) (hxl : x.length ≤ 10) : -44000000000 ≤ scoreM m x ∧ scoreM m x ≤ 44000000000 := by
  obtain ⟨_, _, h3, h4, h5, h6⟩ := mdlB_parts h
  have hl := valsB_len hv
  have := sumL_bound (prodL m x) (fun z hz => by
    unfold prodL at hz
    rcases List.mem_append.1 hz with hz | hz
    · obtain ⟨q, hq, rfl⟩ := List.mem_map.1 hz
      have h7 := h5 q hq
      rw [← hl] at h7
      exact mul_bound (crdB_parts h7).1 (onCrd_bound h7 hxl)
    · obtain ⟨q, hq, rfl⟩ := List.mem_map.1 hz
      have h7 := h6 q hq
      rw [← hl] at h7
      have := onTre_bound h7
      exact mul_bound (treB_parts h7).1 (by omega))
  have hlen : (prodL m x).length = m.cards.length + m.trees.length := by unfold prodL; simp
  rw [hlen] at this
  rw [scoreM_eq]
  omega

set_option maxRecDepth 100000 in
set_option maxHeartbeats 8000000 in
theorem scoreR_all (traits need : Int) (cl : List CrdD) (tl : List TreD) (C T : Option Addr) (c t : Nat) (x : List Int) (A : Option Addr) (a : Nat) (w : World) (h : MdlAt w w.heap.size ⟨traits, cl, C, c, tl, T, t, need⟩) (hls : MdlLe ⟨traits, cl, C, c, tl, T, t, need⟩) (hx : IntsAt w w.heap.size A x) (hxl : x.length ≤ 10) :
    Calls Try.prog 7 #[.agg #[.int .i64 traits, .slice C cl.length c, .slice T tl.length t, .int .i64 need], .slice A x.length a] w fun e w' => e = .returned (.tuple #[.int .i64 (scN ⟨traits, cl.map CrdD.v, tl.map TreD.v, need⟩ x), .bool (scY ⟨traits, cl.map CrdD.v, tl.map TreD.v, need⟩ x), .int .i64 (forE ⟨traits, cl.map CrdD.v, tl.map TreD.v, need⟩ x)]) ∧ Below w.heap.size w w' := by
  have b1 := (Below.refl w.heap.size w).alloc (Nat.le_refl _) (.cells #[.int .i64 traits, .slice C cl.length c, .slice T tl.length t, .int .i64 need] 25)
  have k1 := Blk.new w #[.int .i64 traits, .slice C cl.length c, .slice T tl.length t, .int .i64 need] 25
  have g1 := k1.lt
  have k1c := k1.cell
  have b1s := b1.size
  have HC := Lib.hid (check6_all traits need cl tl C T c t _ (h.later b1) hls)
  have HVa := Lib.hid (fun W hb => values6_any traits (.slice C cl.length c) (.slice T tl.length t) (.int .i64 need) x A a W (hx.later (w' := W) hb) hxl)
  cases q1 : mdlB ⟨traits, cl.map CrdD.v, tl.map TreD.v, need⟩ with
  | false =>
    have hf : mdlE ⟨traits, cl.map CrdD.v, tl.map TreD.v, need⟩ = 60 := by unfold mdlE; rw [if_neg (by rw [q1]; simp)]
    have hE : forE ⟨traits, cl.map CrdD.v, tl.map TreD.v, need⟩ x = 60 := by unfold forE; rw [if_neg (by rw [q1]; simp)]
    have HR : Hid (scN ⟨traits, cl.map CrdD.v, tl.map TreD.v, need⟩ x = 0 ∧ scY ⟨traits, cl.map CrdD.v, tl.map TreD.v, need⟩ x = false ∧ forE ⟨traits, cl.map CrdD.v, tl.map TreD.v, need⟩ x = 60) := Lib.hid ⟨by unfold scN; rw [hE]; rfl, by unfold scY; rw [hE]; rfl, hE⟩
    rw [hf] at HC
    clear h hls hx hf q1 HVa hE
    generalize scN ⟨traits, cl.map CrdD.v, tl.map TreD.v, need⟩ x = rn at *
    generalize scY ⟨traits, cl.map CrdD.v, tl.map TreD.v, need⟩ x = ry at *
    generalize forE ⟨traits, cl.map CrdD.v, tl.map TreD.v, need⟩ x = re at *
    go_enter Try.func7, Try.ntmps7
    go_wp2_with (go_at_call 11; (with_reducible refine (HC.out).mono ?_); rintro e w2 ⟨rfl, h2⟩)
    go_ret3
    exact ⟨by rw [HR.out.1, HR.out.2.1, HR.out.2.2]; rfl, b1.trans (h2.mono b1s)⟩
  | true =>
    have hf : mdlE ⟨traits, cl.map CrdD.v, tl.map TreD.v, need⟩ = 0 := by unfold mdlE; rw [if_pos q1]
    rw [hf] at HC
    cases q2 : valsB traits x with
    | false =>
      have hE : forE ⟨traits, cl.map CrdD.v, tl.map TreD.v, need⟩ x = 61 := by unfold forE; rw [if_pos q1, if_neg (by show ¬ valsB traits x = true; rw [q2]; simp)]
      have HR : Hid (scN ⟨traits, cl.map CrdD.v, tl.map TreD.v, need⟩ x = 0 ∧ scY ⟨traits, cl.map CrdD.v, tl.map TreD.v, need⟩ x = false ∧ forE ⟨traits, cl.map CrdD.v, tl.map TreD.v, need⟩ x = 61) := Lib.hid ⟨by unfold scN; rw [hE]; rfl, by unfold scY; rw [hE]; rfl, hE⟩
      rw [q2] at HVa
      clear h hls hx hf q1 q2 hE
      generalize scN ⟨traits, cl.map CrdD.v, tl.map TreD.v, need⟩ x = rn at *
      generalize scY ⟨traits, cl.map CrdD.v, tl.map TreD.v, need⟩ x = ry at *
      generalize forE ⟨traits, cl.map CrdD.v, tl.map TreD.v, need⟩ x = re at *
      go_enter Try.func7, Try.ntmps7
      go_wp2_with (first
        | (go_at_call 11; (with_reducible refine (HC.out).mono ?_); rintro e w2 ⟨rfl, h2⟩; have b2 := b1.trans (h2.mono b1s); have k2c := (k1.below h2 g1).cell)
        | (go_at_call 17; (with_reducible refine (HVa.out _ b2).mono ?_); rintro e w3 ⟨rfl, h3⟩))
      go_ret3
      exact ⟨by rw [HR.out.1, HR.out.2.1, HR.out.2.2]; rfl, b2.trans (h3.mono b2.size)⟩
    | true =>
      have hE : forE ⟨traits, cl.map CrdD.v, tl.map TreD.v, need⟩ x = 0 := by unfold forE; rw [if_pos q1]; exact if_pos q2
      have HR : Hid (scN ⟨traits, cl.map CrdD.v, tl.map TreD.v, need⟩ x = scoreM ⟨traits, cl.map CrdD.v, tl.map TreD.v, need⟩ x ∧ scY ⟨traits, cl.map CrdD.v, tl.map TreD.v, need⟩ x = decide (1000 * need ≤ scoreM ⟨traits, cl.map CrdD.v, tl.map TreD.v, need⟩ x) ∧ forE ⟨traits, cl.map CrdD.v, tl.map TreD.v, need⟩ x = 0) := Lib.hid ⟨by unfold scN; rw [hE]; rfl, by unfold scY; rw [hE]; rfl, hE⟩
      obtain ⟨_, hnd, p3, p4, p5, p6⟩ := mdlB_parts q1
      have hl := valsB_len q2
      have hsb := scoreM_bound q1 q2 hxl
      have HS := Lib.hid (fun W hb => score6_all traits need cl tl C T c t x A a W (h.later (w' := W) hb) (hx.later hb) (fun y hy => by rw [hl]; exact p5 _ (List.mem_map_of_mem hy)) (fun y hy => by rw [hl]; exact p6 _ (List.mem_map_of_mem hy)) hls.cards hls.trees hxl)
      rw [q2] at HVa
      have hw : IntKind.i64.wrap (1000 * need) = 1000 * need := IntWalk.i64_in _ (by have := hnd; simp only at this; omega)
      clear h hls hx hf q1 q2 hE hnd p3 p4 p5 p6 hl
      generalize scN ⟨traits, cl.map CrdD.v, tl.map TreD.v, need⟩ x = rn at *
      generalize scY ⟨traits, cl.map CrdD.v, tl.map TreD.v, need⟩ x = ry at *
      generalize forE ⟨traits, cl.map CrdD.v, tl.map TreD.v, need⟩ x = re at *
      generalize scoreM ⟨traits, cl.map CrdD.v, tl.map TreD.v, need⟩ x = sc at *
      go_enter Try.func7, Try.ntmps7
      go_upto_region 7 with (first
        | (go_at_call 11; (with_reducible refine (HC.out).mono ?_); rintro e w2 ⟨rfl, h2⟩; have b2 := b1.trans (h2.mono b1s); have k2 := k1.below h2 g1; have k2c := k2.cell)
        | (go_at_call 17; (with_reducible refine (HVa.out _ b2).mono ?_); rintro e w3 ⟨rfl, h3⟩; have b3 := b2.trans (h3.mono b2.size); have k3 := k2.below h3 k2.lt; have k3c := k3.cell)
        | (go_at_call 18; (with_reducible refine (HS.out _ b3).mono ?_); rintro e w4 ⟨rfl, h4⟩; have b4 := b3.trans (h4.mono b3.size); have k4 := k3.below h4 k3.lt))
      have k4a := After.cells (B := w4.heap.size) k4.cell k4.lt
      by_cases hy : 1000 * need ≤ sc
      · have HY : Hid (ry = true) := Lib.hid (by rw [HR.out.2.1, decide_eq_true hy])
        refine wp_region_class_lit (C := fun w' => ∃ z : After w4.heap.size w4, w' = z.val) (by kernel_rfl) (by kernel_rfl) ⟨⟨_, (Below.refl _ _).drew⟩, rfl⟩ ?_
        repeat (go_big_quiet_step (fail))
        refine wpQuiet_nil ?_
        intro wq hw'
        obtain ⟨⟨wz, hz⟩, hw''⟩ := hw'
        dsimp only at hw''
        subst hw''
        go_wp2_with fail
        go_ret3
        exact ⟨by rw [HR.out.1, HY.out, HR.out.2.2]; rfl, b4.trans (hz.mono b4.size)⟩
      · have HY : Hid (ry = false) := Lib.hid (by rw [HR.out.2.1, decide_eq_false hy])
        refine wp_region_class_lit (C := fun w' => ∃ z : After w4.heap.size w4, w' = z.val) (by kernel_rfl) (by kernel_rfl) ⟨⟨_, (Below.refl _ _).drew⟩, rfl⟩ ?_
        repeat (go_big_quiet_step (fail))
        refine wpQuiet_nil ?_
        intro wq hw'
        obtain ⟨⟨wz, hz⟩, hw''⟩ := hw'
        dsimp only at hw''
        subst hw''
        go_wp2_with fail
        go_ret3
        exact ⟨by rw [HR.out.1, HY.out, HR.out.2.2]; rfl, b4.trans (hz.mono b4.size)⟩

set_option maxRecDepth 100000 in
set_option maxHeartbeats 8000000 in
theorem pointsR_all (traits need : Int) (cl : List CrdD) (tl : List TreD) (C T : Option Addr) (c t : Nat) (x : List Int) (A : Option Addr) (a : Nat) (w : World) (h : MdlAt w w.heap.size ⟨traits, cl, C, c, tl, T, t, need⟩) (hls : MdlLe ⟨traits, cl, C, c, tl, T, t, need⟩) (hx : IntsAt w w.heap.size A x) (hxl : x.length ≤ 10) :
    Calls Try.prog 9 #[.agg #[.int .i64 traits, .slice C cl.length c, .slice T tl.length t, .int .i64 need], .slice A x.length a] w fun e w' => ∃ A' c', e = .returned (.tuple #[.slice A' (ptL ⟨traits, cl.map CrdD.v, tl.map TreD.v, need⟩ x).length c', .int .i64 (forE ⟨traits, cl.map CrdD.v, tl.map TreD.v, need⟩ x)]) ∧ w'.ownsRow w.heap.size 3 1 (.slice A' (ptL ⟨traits, cl.map CrdD.v, tl.map TreD.v, need⟩ x).length c') (ptL ⟨traits, cl.map CrdD.v, tl.map TreD.v, need⟩ x).length ((ptL ⟨traits, cl.map CrdD.v, tl.map TreD.v, need⟩ x).flatMap intC) ∧ Below w.heap.size w w' := by
  have b1 := (Below.refl w.heap.size w).alloc (Nat.le_refl _) (.cells #[.int .i64 traits, .slice C cl.length c, .slice T tl.length t, .int .i64 need] 25)
  have k1 := Blk.new w #[.int .i64 traits, .slice C cl.length c, .slice T tl.length t, .int .i64 need] 25
  have g1 := k1.lt
  have k1c := k1.cell
  have b1s := b1.size
  have HC := Lib.hid (check6_all traits need cl tl C T c t _ (h.later b1) hls)
  have HVa := Lib.hid (fun W hb => values6_any traits (.slice C cl.length c) (.slice T tl.length t) (.int .i64 need) x A a W (hx.later (w' := W) hb) hxl)
  cases q1 : mdlB ⟨traits, cl.map CrdD.v, tl.map TreD.v, need⟩ with
  | false =>
    have hf : mdlE ⟨traits, cl.map CrdD.v, tl.map TreD.v, need⟩ = 60 := by unfold mdlE; rw [if_neg (by rw [q1]; simp)]
    have hE : forE ⟨traits, cl.map CrdD.v, tl.map TreD.v, need⟩ x = 60 := by unfold forE; rw [if_neg (by rw [q1]; simp)]
    have hR : ptL ⟨traits, cl.map CrdD.v, tl.map TreD.v, need⟩ x = [] := by unfold ptL; rw [hE]; rfl
    rw [hf] at HC
    rw [hR, hE]
    clear h hls hx hf q1 HVa hE hR
    go_enter Try.func9, Try.ntmps9
    go_wp2_with (go_at_call 11; (with_reducible refine (HC.out).mono ?_); rintro e w2 ⟨rfl, h2⟩)
    go_ret2
    exact ⟨none, 0, rfl, World.ownsRow_nil _ _ _ _, b1.trans (h2.mono b1s)⟩
  | true =>
    have hf : mdlE ⟨traits, cl.map CrdD.v, tl.map TreD.v, need⟩ = 0 := by unfold mdlE; rw [if_pos q1]
    rw [hf] at HC
    cases q2 : valsB traits x with
    | false =>
      have hE : forE ⟨traits, cl.map CrdD.v, tl.map TreD.v, need⟩ x = 61 := by unfold forE; rw [if_pos q1, if_neg (by show ¬ valsB traits x = true; rw [q2]; simp)]
      have hR : ptL ⟨traits, cl.map CrdD.v, tl.map TreD.v, need⟩ x = [] := by unfold ptL; rw [hE]; rfl
      rw [q2] at HVa
      rw [hR, hE]
      clear h hls hx hf q1 q2 hE hR
      go_enter Try.func9, Try.ntmps9
      go_wp2_with (first
        | (go_at_call 11; (with_reducible refine (HC.out).mono ?_); rintro e w2 ⟨rfl, h2⟩; have b2 := b1.trans (h2.mono b1s); have k2c := (k1.below h2 g1).cell)
        | (go_at_call 17; (with_reducible refine (HVa.out _ b2).mono ?_); rintro e w3 ⟨rfl, h3⟩))
      go_ret2
      exact ⟨none, 0, rfl, World.ownsRow_nil _ _ _ _, b2.trans (h3.mono b2.size)⟩
    | true =>
      have hE : forE ⟨traits, cl.map CrdD.v, tl.map TreD.v, need⟩ x = 0 := by unfold forE; rw [if_pos q1]; exact if_pos q2
      have hR : ptL ⟨traits, cl.map CrdD.v, tl.map TreD.v, need⟩ x = ptsL ⟨traits, cl.map CrdD.v, tl.map TreD.v, need⟩ x := by unfold ptL; rw [if_pos hE]
      obtain ⟨_, hnd, p3, p4, p5, p6⟩ := mdlB_parts q1
      have hl := valsB_len q2
      have HS := Lib.hid (fun W hb => all6_all traits need cl tl C T c t x A a W (h.later (w' := W) hb) (hx.later hb) (fun y hy => by rw [hl]; exact p5 _ (List.mem_map_of_mem hy)) (fun y hy => by rw [hl]; exact p6 _ (List.mem_map_of_mem hy)) hls.cards hls.trees hxl)
      rw [q2] at HVa
      rw [hR, hE]
      clear h hls hx hf q1 q2 hE hnd p3 p4 p5 p6 hl hR
      generalize ptsL ⟨traits, cl.map CrdD.v, tl.map TreD.v, need⟩ x = L at *
      go_enter Try.func9, Try.ntmps9
      go_wp2_with (first
        | (go_at_call 11; (with_reducible refine (HC.out).mono ?_); rintro e w2 ⟨rfl, h2⟩; have b2 := b1.trans (h2.mono b1s); have k2 := k1.below h2 g1; have k2c := k2.cell)
        | (go_at_call 17; (with_reducible refine (HVa.out _ b2).mono ?_); rintro e w3 ⟨rfl, h3⟩; have b3 := b2.trans (h3.mono b2.size); have k3 := k2.below h3 k2.lt; have k3c := k3.cell)
        | (go_at_call 20; (with_reducible refine (HS.out _ b3).mono ?_); rintro e w4 ⟨A4, c4, rfl, hown, h4⟩))
      go_ret2
      exact ⟨A4, c4, rfl, own_base hown b3.size, b3.trans (h4.mono b3.size)⟩

end Go.Proofs.Ytabdhioncklblaa

namespace Go.Proofs.Ytabdhioncklblaa
open Go.RowKit Go.Maps

theorem cardUp_sum (l : List SclD) (x : List Int) : ∀ i, i ≤ l.length → sumL ((cardUp l i).map (onPart x)) = sclsUp (l.map SclD.v) x i
  | 0, _ => by simp [cardUp, sclsUp, sumL]
  | i + 1, hi => by
    have h1 := cardUp_sum l x i (by omega)
    unfold cardUp at h1 ⊢
    rw [List.range_succ, List.map_append, List.map_append, List.map_singleton, List.map_singleton, sumL_snoc, h1, sclsUp]
    congr 1
    rw [getD_lt l default (by omega), getD_lt (l.map SclD.v) default (by rw [List.length_map]; omega)]
    simp [onPart]
def corePts (x : List Int) (q : Int × Int × List PartD) : Int := q.2.1 + sumL (q.2.2.map (onPart x))
theorem corePts_card (x : List Int) (y : CrdD) : corePts x (crdCore y) = onCrd y.v x := by
  have := cardUp_sum y.scales x y.scales.length (Nat.le_refl _)
  unfold corePts crdCore onCrd
  show y.base + sumL ((cardUp y.scales y.scales.length).map (onPart x)) = y.base + sclsUp (y.scales.map SclD.v) x (y.scales.map SclD.v).length
  rw [this, List.length_map]
theorem corePts_tree (x : List Int) (y : TreD) : corePts x (treCore y) = onTre y.v x := by
  simp [corePts, treCore, sumL, onPart]
theorem sh_points {cl : List CrdD} {tl : List TreD} {sh : List ShD} (h : sh.map ShD.core = cl.map crdCore ++ tl.map treCore) (traits need : Int) (x : List Int) : sh.map (shPts x) = ptsL ⟨traits, cl.map CrdD.v, tl.map TreD.v, need⟩ x := by
  have e : sh.map (shPts x) = (sh.map ShD.core).map (corePts x) := by rw [List.map_map]; rfl
  rw [e, h, List.map_append, List.map_map, List.map_map]
  unfold ptsL
  simp only [List.map_map]
  congr 1
  · exact List.map_congr_left fun y _ => corePts_card x y
  · exact List.map_congr_left fun y _ => corePts_tree x y
theorem sh_score {cl : List CrdD} {tl : List TreD} {sh : List ShD} (h : sh.map ShD.core = cl.map crdCore ++ tl.map treCore) (traits need : Int) (x : List Int) : sumL (sh.map fun y => y.weight * shPts x y) = scoreM ⟨traits, cl.map CrdD.v, tl.map TreD.v, need⟩ x := by
  have e : (sh.map fun y => y.weight * shPts x y) = (sh.map ShD.core).map (fun q => q.1 * corePts x q) := by rw [List.map_map]; rfl
  rw [e, h, List.map_append, List.map_map, List.map_map]
  unfold scoreM
  simp only [List.map_map]
  congr 2
  · exact List.map_congr_left fun y _ => by show y.weight * corePts x (crdCore y) = _; rw [corePts_card]; rfl
  · exact List.map_congr_left fun y _ => by show y.v.weight * corePts x (treCore y) = _; rw [corePts_tree]; rfl
theorem sh_ok {traits need : Int} {cl : List CrdD} {tl : List TreD} {sh : List ShD} {x : List Int} (hq : mdlB ⟨traits, cl.map CrdD.v, tl.map TreD.v, need⟩ = true) (hx : (x.length : Int) = traits) (h : sh.map ShD.core = cl.map crdCore ++ tl.map treCore) : ∀ y ∈ sh, ShOk x.length y := fun y hy => by
  obtain ⟨h1, _, _, _, h5, h6⟩ := mdlB_parts hq
  rcases core_cases h y hy with ⟨z, hz, e1, e2, e3⟩ | ⟨z, hz, e1, e2, e3⟩
  · have h7 := crdB_parts (h5 _ (List.mem_map_of_mem hz))
    have h8 : (z.scales.length : Int) = traits := by have := h7.2.2.1; simpa [CrdD.v] using this
    refine ⟨by rw [e2]; exact h7.2.1, by rw [e1]; exact h7.1, by rw [e3, cardParts_len]; simp only at h1; omega, fun q hq2 => ?_⟩
    rw [e3] at hq2
    obtain ⟨s, k, hs, hk, rfl⟩ := cardParts_mem hq2
    exact ⟨h7.2.2.2 _ (List.mem_map_of_mem hs), by omega⟩
  · have h7 := h6 _ (List.mem_map_of_mem hz)
    refine ⟨by rw [e2]; decide, by rw [e1]; exact (treB_parts h7).1, by rw [e3]; simp, fun q hq2 => ?_⟩
    rw [e3, List.mem_singleton] at hq2
    subst hq2
    show treB x.length z.v = true
    rw [hx]; exact h7

set_option maxRecDepth 100000 in
set_option maxHeartbeats 4000000 in
theorem open_bad (traits need : Int) (cl : List CrdD) (tl : List TreD) (C T : Option Addr) (c t : Nat) (w : World) (h : MdlAt w w.heap.size ⟨traits, cl, C, c, tl, T, t, need⟩) (hls : MdlLe ⟨traits, cl, C, c, tl, T, t, need⟩) (hq : mdlB ⟨traits, cl.map CrdD.v, tl.map TreD.v, need⟩ = false) :
    Calls Try.prog 27 #[.agg #[.int .i64 traits, .slice C cl.length c, .slice T tl.length t, .int .i64 need]] w fun e w' => e = .returned (.tuple #[.agg #[.int .i64 0, .slice none 0 0, .slice none 0 0, .int .i64 0, .slice none 0 0], .int .i64 60]) ∧ Below w.heap.size w w' := by
  have b1 := (Below.refl w.heap.size w).alloc (Nat.le_refl _) (.cells #[.int .i64 traits, .slice C cl.length c, .slice T tl.length t, .int .i64 need] 25)
  have k1 := Blk.new w #[.int .i64 traits, .slice C cl.length c, .slice T tl.length t, .int .i64 need] 25
  have k1c := k1.cell
  have b1s := b1.size
  have HC := Lib.hid (fun W hb => checkP_any ⟨traits, cl, C, c, tl, T, t, need⟩ W (h.later (w' := W) hb) hls)
  have he : mdlE (MdlD.v ⟨traits, cl, C, c, tl, T, t, need⟩) = 60 := by unfold mdlE; exact if_neg (by show ¬ mdlB ⟨traits, cl.map CrdD.v, tl.map TreD.v, need⟩ = true; rw [hq]; simp)
  rw [he] at HC
  have b2 := b1.alloc b1s (.cells #[.int .i64 0, .slice none 0 0, .slice none 0 0, .int .i64 0, .slice none 0 0] 54)
  have k2 := k1.alloc (.cells #[.int .i64 0, .slice none 0 0, .slice none 0 0, .int .i64 0, .slice none 0 0] 54)
  have kr := newAt' (w.alloc (.cells #[.int .i64 traits, .slice C cl.length c, .slice T tl.length t, .int .i64 need] 25)) #[.int .i64 0, .slice none 0 0, .slice none 0 0, .int .i64 0, .slice none 0 0] 54 (g := w.heap.size + 1) (by simp)
  go_enter Try.func27, Try.ntmps27
  go_wp2_with fail
  generalize hW2 : (w.alloc (.cells #[.int .i64 traits, .slice C cl.length c, .slice T tl.length t, .int .i64 need] 25)).alloc (.cells #[.int .i64 0, .slice none 0 0, .slice none 0 0, .int .i64 0, .slice none 0 0] 54) = W2 at *
  have hs2 := kr.lt
  clear hW2 k1c k1 b1 b1s h
  have b2s := b2.size
  go_wp2_with (go_at_call 10; (with_reducible refine (HC.out _ b2).mono ?_); rintro e w5 ⟨rfl, h5⟩; have k5 := kr.below h5 hs2; have k5c := k5.cell; have z0 := k5.free 0; have z1 := k5.free 1; have z2 := k5.free 2; have z3 := k5.free 3; have z4 := k5.free 4)
  have hrc := (nod_put (c0 := .int .i64 0) (c1 := .slice none 0 0) (c2 := .slice none 0 0) (c3 := .int .i64 0) (c4 := .slice none 0 0) k5).cell
  exact bodyPost_ret (v := .tuple #[.agg #[.int .i64 0, .slice none 0 0, .slice none 0 0, .int .i64 0, .slice none 0 0], .int .i64 60]) (by simp [results, Try.results27, go_sem, hrc]) rfl ⟨rfl, ((((((b2.trans (h5.mono b2s)).setCell (p := ⟨w.heap.size + 1, 0, none⟩) (by simp) _).setCell (p := ⟨w.heap.size + 1, 1, none⟩) (by simp) _).setCell (p := ⟨w.heap.size + 1, 2, none⟩) (by simp) _).setCell (p := ⟨w.heap.size + 1, 3, none⟩) (by simp) _).setCell (p := ⟨w.heap.size + 1, 4, none⟩) (by simp) _)⟩

set_option maxRecDepth 100000 in
set_option maxHeartbeats 4000000 in
theorem openFor_bad (traits need : Int) (cl : List CrdD) (tl : List TreD) (C T : Option Addr) (c t : Nat) (x : List Int) (X : Option Addr) (xc : Nat) (w : World) (h : MdlAt w w.heap.size ⟨traits, cl, C, c, tl, T, t, need⟩) (hls : MdlLe ⟨traits, cl, C, c, tl, T, t, need⟩) (hq : mdlB ⟨traits, cl.map CrdD.v, tl.map TreD.v, need⟩ = false) :
    Calls Try.prog 14 #[.agg #[.int .i64 traits, .slice C cl.length c, .slice T tl.length t, .int .i64 need], .slice X x.length xc] w fun e w' => e = .returned (.tuple #[.agg #[.int .i64 0, .slice none 0 0, .slice none 0 0, .int .i64 0, .slice none 0 0], .int .i64 60]) ∧ Below w.heap.size w w' := by
  have b1 := (Below.refl w.heap.size w).alloc (Nat.le_refl _) (.cells #[.int .i64 traits, .slice C cl.length c, .slice T tl.length t, .int .i64 need] 25)
  have k1 := Blk.new w #[.int .i64 traits, .slice C cl.length c, .slice T tl.length t, .int .i64 need] 25
  have k1c := k1.cell
  have b1s := b1.size
  have b2 := b1.alloc b1s (.cells #[.int .i64 0, .slice none 0 0, .slice none 0 0, .int .i64 0, .slice none 0 0] 54)
  have k2 := k1.alloc (.cells #[.int .i64 0, .slice none 0 0, .slice none 0 0, .int .i64 0, .slice none 0 0] 54)
  have kr := newAt' (w.alloc (.cells #[.int .i64 traits, .slice C cl.length c, .slice T tl.length t, .int .i64 need] 25)) #[.int .i64 0, .slice none 0 0, .slice none 0 0, .int .i64 0, .slice none 0 0] 54 (g := w.heap.size + 1) (by simp)
  have HC := Lib.hid (fun W hb => open_bad traits need cl tl C T c t W (h.later (w' := W) hb) hls hq)
  go_enter Try.func14, Try.ntmps14
  go_wp2_with fail
  generalize hW2 : (w.alloc (.cells #[.int .i64 traits, .slice C cl.length c, .slice T tl.length t, .int .i64 need] 25)).alloc (.cells #[.int .i64 0, .slice none 0 0, .slice none 0 0, .int .i64 0, .slice none 0 0] 54) = W2 at *
  have hs2 := kr.lt
  clear hW2 k1c k1 b1 b1s h
  have b2s := b2.size
  go_wp2_with (go_at_call 27; (with_reducible refine (HC.out _ b2).mono ?_); rintro e w5 ⟨rfl, h5⟩; have b5 := b2.trans (h5.mono b2s); have k5 := (kr.below h5 hs2).alloc (.cells #[.int .i64 0, .slice none 0 0, .slice none 0 0, .int .i64 0, .slice none 0 0] 54); have k5c := k5.cell; have z0 := k5.free 0; have z1 := k5.free 1; have z2 := k5.free 2; have z3 := k5.free 3; have z4 := k5.free 4;)
  have hrc := (nod_put (c0 := .int .i64 0) (c1 := .slice none 0 0) (c2 := .slice none 0 0) (c3 := .int .i64 0) (c4 := .slice none 0 0) k5).cell
  exact bodyPost_ret (v := .tuple #[.agg #[.int .i64 0, .slice none 0 0, .slice none 0 0, .int .i64 0, .slice none 0 0], .int .i64 60]) (by simp [results, Try.results14, go_sem, hrc]) rfl ⟨rfl, (((((((b5.alloc b5.size (.cells #[.int .i64 0, .slice none 0 0, .slice none 0 0, .int .i64 0, .slice none 0 0] 54)).setCell (p := ⟨w.heap.size + 1, 0, none⟩) (by simp) _).setCell (p := ⟨w.heap.size + 1, 1, none⟩) (by simp) _).setCell (p := ⟨w.heap.size + 1, 2, none⟩) (by simp) _).setCell (p := ⟨w.heap.size + 1, 3, none⟩) (by simp) _).setCell (p := ⟨w.heap.size + 1, 4, none⟩) (by simp) _))⟩

set_option maxRecDepth 100000 in
set_option maxHeartbeats 4000000 in
theorem openFor_vals (traits need : Int) (cl : List CrdD) (tl : List TreD) (C T : Option Addr) (c t : Nat) (x : List Int) (X : Option Addr) (xc : Nat) (w : World) (h : MdlAt w w.heap.size ⟨traits, cl, C, c, tl, T, t, need⟩) (hls : MdlLe ⟨traits, cl, C, c, tl, T, t, need⟩) (hx : IntsAt w w.heap.size X x) (hxl : x.length ≤ 10) (hq : mdlB ⟨traits, cl.map CrdD.v, tl.map TreD.v, need⟩ = true) (hv : valsB traits x = false) :
    Calls Try.prog 14 #[.agg #[.int .i64 traits, .slice C cl.length c, .slice T tl.length t, .int .i64 need], .slice X x.length xc] w fun e w' => e = .returned (.tuple #[.agg #[.int .i64 0, .slice none 0 0, .slice none 0 0, .int .i64 0, .slice none 0 0], .int .i64 61]) ∧ Below w.heap.size w w' := by
  have b1 := (Below.refl w.heap.size w).alloc (Nat.le_refl _) (.cells #[.int .i64 traits, .slice C cl.length c, .slice T tl.length t, .int .i64 need] 25)
  have k1 := Blk.new w #[.int .i64 traits, .slice C cl.length c, .slice T tl.length t, .int .i64 need] 25
  have k1c := k1.cell
  have b1s := b1.size
  have b2 := b1.alloc b1s (.cells #[.int .i64 0, .slice none 0 0, .slice none 0 0, .int .i64 0, .slice none 0 0] 54)
  have k2 := k1.alloc (.cells #[.int .i64 0, .slice none 0 0, .slice none 0 0, .int .i64 0, .slice none 0 0] 54)
  have kr := newAt' (w.alloc (.cells #[.int .i64 traits, .slice C cl.length c, .slice T tl.length t, .int .i64 need] 25)) #[.int .i64 0, .slice none 0 0, .slice none 0 0, .int .i64 0, .slice none 0 0] 54 (g := w.heap.size + 1) (by simp)
  have HC := Lib.hid (fun W hb => open_all traits need cl tl C T c t W (h.later (w' := W) hb) hls hq)
  have HV := Lib.hid (fun (S : Option Addr) (n s : Nat) W hb => valuesV_any traits need C T S cl.length c tl.length t n s x X xc W (hx.later (w' := W) hb) hxl)
  rw [hv] at HV
  clear hx
  go_enter Try.func14, Try.ntmps14
  go_wp2_with fail
  generalize hW2 : (w.alloc (.cells #[.int .i64 traits, .slice C cl.length c, .slice T tl.length t, .int .i64 need] 25)).alloc (.cells #[.int .i64 0, .slice none 0 0, .slice none 0 0, .int .i64 0, .slice none 0 0] 54) = W2 at *
  have hs2 := kr.lt
  clear hW2 k1c k1 b1 b1s h
  have b2s := b2.size
  go_wp2_with (first
    | (go_at_call 27; (with_reducible refine (HC.out _ b2).mono ?_); rintro e w5 ⟨S, s, sh, rfl, _, _, h5⟩; have b5 := b2.trans (h5.mono b2s); have b5a := b5.alloc b5.size (.cells #[.int .i64 traits, .slice C cl.length c, .slice T tl.length t, .int .i64 need, .slice S (cl.length + tl.length) s] 54); have k5 := (kr.below h5 hs2).alloc (.cells #[.int .i64 traits, .slice C cl.length c, .slice T tl.length t, .int .i64 need, .slice S (cl.length + tl.length) s] 54); have k5c := k5.cell; have kw := Blk.new w5 #[.int .i64 traits, .slice C cl.length c, .slice T tl.length t, .int .i64 need, .slice S (cl.length + tl.length) s] 54; have kwc := kw.cell)
    | (go_at_call 28; (with_reducible refine (HV.out S (cl.length + tl.length) s _ b5a).mono ?_); rintro e w6 ⟨rfl, h6⟩; have b6 := b5a.trans (h6.mono b5a.size); have k6 := k5.below h6 k5.lt; have k6c := k6.cell; have z0 := k6.free 0; have z1 := k6.free 1; have z2 := k6.free 2; have z3 := k6.free 3; have z4 := k6.free 4;))
  have hrc := (nod_put (c0 := .int .i64 0) (c1 := .slice none 0 0) (c2 := .slice none 0 0) (c3 := .int .i64 0) (c4 := .slice none 0 0) k6).cell
  exact bodyPost_ret (v := .tuple #[.agg #[.int .i64 0, .slice none 0 0, .slice none 0 0, .int .i64 0, .slice none 0 0], .int .i64 61]) (by simp [results, Try.results14, go_sem, hrc]) rfl ⟨rfl, ((((((b6.setCell (p := ⟨w.heap.size + 1, 0, none⟩) (by simp) _).setCell (p := ⟨w.heap.size + 1, 1, none⟩) (by simp) _).setCell (p := ⟨w.heap.size + 1, 2, none⟩) (by simp) _).setCell (p := ⟨w.heap.size + 1, 3, none⟩) (by simp) _).setCell (p := ⟨w.heap.size + 1, 4, none⟩) (by simp) _))⟩

set_option maxRecDepth 100000 in
set_option maxHeartbeats 4000000 in
theorem openFor_good (traits need : Int) (cl : List CrdD) (tl : List TreD) (C T : Option Addr) (c t : Nat) (x : List Int) (X : Option Addr) (xc : Nat) (w : World) (h : MdlAt w w.heap.size ⟨traits, cl, C, c, tl, T, t, need⟩) (hls : MdlLe ⟨traits, cl, C, c, tl, T, t, need⟩) (hx : IntsAt w w.heap.size X x) (hxl : x.length ≤ 10) (hq : mdlB ⟨traits, cl.map CrdD.v, tl.map TreD.v, need⟩ = true) (hv : valsB traits x = true) :
    Calls Try.prog 14 #[.agg #[.int .i64 traits, .slice C cl.length c, .slice T tl.length t, .int .i64 need], .slice X x.length xc] w fun e w' => OpenS w traits need cl tl C T c t e w' := by
  have b1 := (Below.refl w.heap.size w).alloc (Nat.le_refl _) (.cells #[.int .i64 traits, .slice C cl.length c, .slice T tl.length t, .int .i64 need] 25)
  have k1 := Blk.new w #[.int .i64 traits, .slice C cl.length c, .slice T tl.length t, .int .i64 need] 25
  have k1c := k1.cell
  have b1s := b1.size
  have b2 := b1.alloc b1s (.cells #[.int .i64 0, .slice none 0 0, .slice none 0 0, .int .i64 0, .slice none 0 0] 54)
  have k2 := k1.alloc (.cells #[.int .i64 0, .slice none 0 0, .slice none 0 0, .int .i64 0, .slice none 0 0] 54)
  have kr := newAt' (w.alloc (.cells #[.int .i64 traits, .slice C cl.length c, .slice T tl.length t, .int .i64 need] 25)) #[.int .i64 0, .slice none 0 0, .slice none 0 0, .int .i64 0, .slice none 0 0] 54 (g := w.heap.size + 1) (by simp)
  have HC := Lib.hid (fun W hb => open_all traits need cl tl C T c t W (h.later (w' := W) hb) hls hq)
  have HV := Lib.hid (fun (S : Option Addr) (n s : Nat) W hb => valuesV_any traits need C T S cl.length c tl.length t n s x X xc W (hx.later (w' := W) hb) hxl)
  rw [hv] at HV
  clear hx
  go_enter Try.func14, Try.ntmps14
  go_wp2_with fail
  generalize hW2 : (w.alloc (.cells #[.int .i64 traits, .slice C cl.length c, .slice T tl.length t, .int .i64 need] 25)).alloc (.cells #[.int .i64 0, .slice none 0 0, .slice none 0 0, .int .i64 0, .slice none 0 0] 54) = W2 at *
  have hs2 := kr.lt
  clear hW2 k1c k1 b1 b1s h
  have b2s := b2.size
  go_wp2_with (first
    | (go_at_call 27; (with_reducible refine (HC.out _ b2).mono ?_); rintro e w5 ⟨S, s, sh, rfl, hco, hat, h5⟩; have HO := Lib.hid hco; have HA := Lib.hid hat; clear hco hat; have b5 := b2.trans (h5.mono b2s); have b5a := b5.alloc b5.size (.cells #[.int .i64 traits, .slice C cl.length c, .slice T tl.length t, .int .i64 need, .slice S (cl.length + tl.length) s] 54); have ba := (Below.refl w5.heap.size w5).alloc (Nat.le_refl _) (.cells #[.int .i64 traits, .slice C cl.length c, .slice T tl.length t, .int .i64 need, .slice S (cl.length + tl.length) s] 54); have k5 := (kr.below h5 hs2).alloc (.cells #[.int .i64 traits, .slice C cl.length c, .slice T tl.length t, .int .i64 need, .slice S (cl.length + tl.length) s] 54); have k5c := k5.cell; have kw := Blk.new w5 #[.int .i64 traits, .slice C cl.length c, .slice T tl.length t, .int .i64 need, .slice S (cl.length + tl.length) s] 54; have kwc := kw.cell)
    | (go_at_call 28; (with_reducible refine (HV.out S (cl.length + tl.length) s _ b5a).mono ?_); rintro e w6 ⟨rfl, h6⟩; have b6 := b5a.trans (h6.mono b5a.size); have k6 := k5.below h6 k5.lt; have k6c := k6.cell; have kw6 := (kw.below h6 kw.lt).cell; have z0 := k6.free 0; have z1 := k6.free 1; have z2 := k6.free 2; have z3 := k6.free 3; have z4 := k6.free 4;))
  have hrc := (nod_put (c0 := .int .i64 traits) (c1 := .slice C cl.length c) (c2 := .slice T tl.length t) (c3 := .int .i64 need) (c4 := .slice S (cl.length + tl.length) s) k6).cell
  have hbe := ((((((b6.setCell (p := ⟨w.heap.size + 1, 0, none⟩) (by simp) (.int .i64 traits)).setCell (p := ⟨w.heap.size + 1, 1, none⟩) (by simp) (.slice C cl.length c)).setCell (p := ⟨w.heap.size + 1, 2, none⟩) (by simp) (.slice T tl.length t)).setCell (p := ⟨w.heap.size + 1, 3, none⟩) (by simp) (.int .i64 need)).setCell (p := ⟨w.heap.size + 1, 4, none⟩) (by simp) (.slice S (cl.length + tl.length) s)))
  have hse := ((((((((HA.out.below ba).below h6).setCell (p := ⟨w.heap.size + 1, 0, none⟩) hs2 (.int .i64 traits)).setCell (p := ⟨w.heap.size + 1, 1, none⟩) hs2 (.slice C cl.length c)).setCell (p := ⟨w.heap.size + 1, 2, none⟩) hs2 (.slice T tl.length t)).setCell (p := ⟨w.heap.size + 1, 3, none⟩) hs2 (.int .i64 need)).setCell (p := ⟨w.heap.size + 1, 4, none⟩) hs2 (.slice S (cl.length + tl.length) s)))
  exact bodyPost_ret (v := .tuple #[.agg #[.int .i64 traits, .slice C cl.length c, .slice T tl.length t, .int .i64 need, .slice S (cl.length + tl.length) s], .int .i64 0]) (by simp [results, Try.results14, go_sem, hrc]) rfl ⟨S, s, sh, rfl, HO.out, hse.less b2s, hbe⟩
end Go.Proofs.Ytabdhioncklblaa

namespace Go.Proofs.Ytabdhioncklblaa
open Go.RowKit Go.Maps

theorem ShInv.len {w : World} {lo : Nat} {A : Option Addr} {c n : Nat} {l : List ShD} (h : ShInv w lo A c n l) : l.length = n := h.1
theorem scoreP_inv (traits need : Int) (C T S : Option Addr) (cl c tl t s n : Nat) (l : List ShD) (x : List Int) (X : Option Addr) (xc : Nat) (w : World) (hn : l.length = n) (h : SharesAt w w.heap.size S l) (hx : IntsAt w w.heap.size X x) (hok : ∀ y ∈ l, ShOk x.length y) (hl : n ≤ 10) (hxl : x.length ≤ 10) :
    Calls Try.prog 15 #[.agg #[.int .i64 traits, .slice C cl c, .slice T tl t, .int .i64 need, .slice S n s], .slice X x.length xc] w fun e w' => e = .returned (.int .i64 (sumL (l.map fun y => y.weight * shPts x y))) ∧ Below w.heap.size w w' := by
  subst hn; exact scoreP_any traits need C T S cl c tl t s l x X xc w h hx hok hl hxl
theorem pointsP_inv (traits need : Int) (C T S : Option Addr) (cl c tl t s n : Nat) (l : List ShD) (x : List Int) (X : Option Addr) (xc : Nat) (w : World) (hn : l.length = n) (h : SharesAt w w.heap.size S l) (hx : IntsAt w w.heap.size X x) (hok : ∀ y ∈ l, ShOk x.length y) (hl : n ≤ 10) (hxl : x.length ≤ 10) :
    Calls Try.prog 19 #[.agg #[.int .i64 traits, .slice C cl c, .slice T tl t, .int .i64 need, .slice S n s], .slice X x.length xc] w fun e w' => ∃ A' c', e = .returned (.slice A' n c') ∧ w'.ownsRow w.heap.size 3 1 (.slice A' n c') n ((l.map (shPts x)).flatMap intC) ∧ Below w.heap.size w w' := by
  subst hn; exact pointsP_any traits need C T S cl c tl t s l x X xc w h hx hok hl hxl

set_option maxRecDepth 100000 in
set_option maxHeartbeats 4000000 in
theorem scoreP_all (traits need : Int) (cl : List CrdD) (tl : List TreD) (C T : Option Addr) (c t : Nat) (x : List Int) (X : Option Addr) (xc : Nat) (w : World) (h : MdlAt w w.heap.size ⟨traits, cl, C, c, tl, T, t, need⟩) (hls : MdlLe ⟨traits, cl, C, c, tl, T, t, need⟩) (hx : IntsAt w w.heap.size X x) (hxl : x.length ≤ 10) :
    Calls Try.prog 6 #[.agg #[.int .i64 traits, .slice C cl.length c, .slice T tl.length t, .int .i64 need], .slice X x.length xc] w (fun e w' => e = .returned (.tuple #[.int .i64 (scN ⟨traits, cl.map CrdD.v, tl.map TreD.v, need⟩ x), .bool (scY ⟨traits, cl.map CrdD.v, tl.map TreD.v, need⟩ x), .int .i64 (forE ⟨traits, cl.map CrdD.v, tl.map TreD.v, need⟩ x)]) ∧ Below w.heap.size w w') := by
  have b1 := (Below.refl w.heap.size w).alloc (Nat.le_refl _) (.cells #[.int .i64 traits, .slice C cl.length c, .slice T tl.length t, .int .i64 need] 25)
  have k1 := Blk.new w #[.int .i64 traits, .slice C cl.length c, .slice T tl.length t, .int .i64 need] 25
  have k1c := k1.cell
  have b1s := b1.size
  by_cases q1 : mdlB ⟨traits, cl.map CrdD.v, tl.map TreD.v, need⟩ = true
  · by_cases q2 : valsB traits x = true
    · have hE : forE ⟨traits, cl.map CrdD.v, tl.map TreD.v, need⟩ x = 0 := by unfold forE; rw [if_pos q1]; exact if_pos q2
      have e1 : scN ⟨traits, cl.map CrdD.v, tl.map TreD.v, need⟩ x = scoreM ⟨traits, cl.map CrdD.v, tl.map TreD.v, need⟩ x := by unfold scN; rw [if_pos hE]
      have e2 : scY ⟨traits, cl.map CrdD.v, tl.map TreD.v, need⟩ x = decide (1000 * need ≤ scoreM ⟨traits, cl.map CrdD.v, tl.map TreD.v, need⟩ x) := by unfold scY; rw [if_pos hE]
      rw [e1, e2, hE]
      clear hE e1 e2
      obtain ⟨_, hnd, p3, p4, _, _⟩ := mdlB_parts q1
      have hl := valsB_len q2
      have HC := Lib.hid (fun W hb => openFor_good traits need cl tl C T c t x X xc W (h.later (w' := W) hb) hls (hx.later hb) hxl q1 q2)
      have hls6 : cl.length ≤ 2 := by simpa using p3
      have hls7 : tl.length ≤ 2 := by simpa using p4
      have HSh := Lib.hid (fun (sh : List ShD) (hco : sh.map ShD.core = cl.map crdCore ++ tl.map treCore) (S : Option Addr) (s lo : Nat) W (hi : ShInv W lo S s (cl.length + tl.length) sh) (hb : Below w.heap.size w W) => hi.at_ (fun y hy q hq => ((core_parts h hco y hy q hq).below hb).more hb.size))
      have HS := Lib.hid (fun (sh : List ShD) (hco : sh.map ShD.core = cl.map crdCore ++ tl.map treCore) (S : Option Addr) (s : Nat) W (hlen : sh.length = cl.length + tl.length) (hat : SharesAt W W.heap.size S sh) (hb : Below w.heap.size w W) => show Calls Try.prog 15 #[.agg #[.int .i64 traits, .slice C cl.length c, .slice T tl.length t, .int .i64 need, .slice S (cl.length + tl.length) s], .slice X x.length xc] W (fun e w' => e = .returned (.int .i64 (scoreM ⟨traits, cl.map CrdD.v, tl.map TreD.v, need⟩ x)) ∧ Below W.heap.size W w') from by rw [← sh_score hco traits need x]; exact scoreP_inv traits need C T S cl.length c tl.length t s (cl.length + tl.length) sh x X xc W hlen hat (hx.later hb) (sh_ok q1 hl hco) (by omega) hxl)
      have HY := Lib.hid (fun (S : Option Addr) (n s : Nat) (z : Int) W => yes_any traits need C T S cl.length c tl.length t n s z W hnd)
      clear h hx hls
      generalize scoreM ⟨traits, cl.map CrdD.v, tl.map TreD.v, need⟩ x = z at *
      go_enter Try.func6, Try.ntmps6
      go_wp2_with (first
        | (go_at_call 14; (with_reducible refine (HC.out _ b1).mono ?_); rintro e w5 ⟨S, s, sh, rfl, hco, hat, h5⟩; have HO := Lib.hid hco; have HA := Lib.hid hat; clear hco hat; have b5 := b1.trans (h5.mono b1s); have b6 := b5.alloc b5.size (.cells #[.int .i64 traits, .slice C cl.length c, .slice T tl.length t, .int .i64 need, .slice S (cl.length + tl.length) s] 54); have ba := (Below.refl w5.heap.size w5).alloc (Nat.le_refl _) (.cells #[.int .i64 traits, .slice C cl.length c, .slice T tl.length t, .int .i64 need, .slice S (cl.length + tl.length) s] 54); have kw := Blk.new w5 #[.int .i64 traits, .slice C cl.length c, .slice T tl.length t, .int .i64 need, .slice S (cl.length + tl.length) s] 54; have kwc := kw.cell)
        | (go_at_call 15; (with_reducible refine (HS.out sh HO.out S s _ (ShInv.len HA.out) (HSh.out sh HO.out S s _ _ (HA.out.below ba) b6) b6).mono ?_); rintro e w7 ⟨rfl, h7⟩; have b7 := b6.trans (h7.mono b6.size); have k7c := (kw.below h7 kw.lt).cell)
        | (go_at_call 16; (with_reducible refine (HY.out S _ s z _).mono ?_); rintro e w8 ⟨rfl, h8⟩))
      go_ret3
      exact ⟨rfl, b7.trans (h8.mono b7.size)⟩
    · have q2' : valsB traits x = false := by simpa using q2
      have hE : forE ⟨traits, cl.map CrdD.v, tl.map TreD.v, need⟩ x = 61 := by unfold forE; rw [if_pos q1]; exact if_neg q2
      have HR : Hid (scN ⟨traits, cl.map CrdD.v, tl.map TreD.v, need⟩ x = 0 ∧ scY ⟨traits, cl.map CrdD.v, tl.map TreD.v, need⟩ x = false ∧ forE ⟨traits, cl.map CrdD.v, tl.map TreD.v, need⟩ x = 61) := Lib.hid ⟨by unfold scN; rw [hE]; rfl, by unfold scY; rw [hE]; rfl, hE⟩
      rw [HR.out.1, HR.out.2.1, HR.out.2.2]
      have HC := Lib.hid (fun W hb => openFor_vals traits need cl tl C T c t x X xc W (h.later (w' := W) hb) hls (hx.later hb) hxl q1 q2')
      clear h hx hls hE HR q1 q2 q2'
      go_enter Try.func6, Try.ntmps6
      go_wp2_with (go_at_call 14; (with_reducible refine (HC.out _ b1).mono ?_); rintro e w5 ⟨rfl, h5⟩; have b5 := b1.trans (h5.mono b1s); have k5c := (Blk.new w5 #[.int .i64 0, .slice none 0 0, .slice none 0 0, .int .i64 0, .slice none 0 0] 54).cell)
      go_ret3
      exact ⟨rfl, b5.alloc b5.size _⟩
  · have q1' : mdlB ⟨traits, cl.map CrdD.v, tl.map TreD.v, need⟩ = false := by simpa using q1
    have hE : forE ⟨traits, cl.map CrdD.v, tl.map TreD.v, need⟩ x = 60 := by unfold forE; exact if_neg q1
    have HR : Hid (scN ⟨traits, cl.map CrdD.v, tl.map TreD.v, need⟩ x = 0 ∧ scY ⟨traits, cl.map CrdD.v, tl.map TreD.v, need⟩ x = false ∧ forE ⟨traits, cl.map CrdD.v, tl.map TreD.v, need⟩ x = 60) := Lib.hid ⟨by unfold scN; rw [hE]; rfl, by unfold scY; rw [hE]; rfl, hE⟩
    rw [HR.out.1, HR.out.2.1, HR.out.2.2]
    have HC := Lib.hid (fun W hb => openFor_bad traits need cl tl C T c t x X xc W (h.later (w' := W) hb) hls q1')
    clear h hx hls hE HR q1 q1'
    go_enter Try.func6, Try.ntmps6
    go_wp2_with (go_at_call 14; (with_reducible refine (HC.out _ b1).mono ?_); rintro e w5 ⟨rfl, h5⟩; have b5 := b1.trans (h5.mono b1s); have k5c := (Blk.new w5 #[.int .i64 0, .slice none 0 0, .slice none 0 0, .int .i64 0, .slice none 0 0] 54).cell)
    go_ret3
    exact ⟨rfl, b5.alloc b5.size _⟩

set_option maxRecDepth 100000 in
set_option maxHeartbeats 4000000 in
theorem pointsP_all (traits need : Int) (cl : List CrdD) (tl : List TreD) (C T : Option Addr) (c t : Nat) (x : List Int) (X : Option Addr) (xc : Nat) (w : World) (h : MdlAt w w.heap.size ⟨traits, cl, C, c, tl, T, t, need⟩) (hls : MdlLe ⟨traits, cl, C, c, tl, T, t, need⟩) (hx : IntsAt w w.heap.size X x) (hxl : x.length ≤ 10) :
    Calls Try.prog 8 #[.agg #[.int .i64 traits, .slice C cl.length c, .slice T tl.length t, .int .i64 need], .slice X x.length xc] w fun e w' => ∃ A' c', e = .returned (.tuple #[.slice A' (ptL ⟨traits, cl.map CrdD.v, tl.map TreD.v, need⟩ x).length c', .int .i64 (forE ⟨traits, cl.map CrdD.v, tl.map TreD.v, need⟩ x)]) ∧ w'.ownsRow w.heap.size 3 1 (.slice A' (ptL ⟨traits, cl.map CrdD.v, tl.map TreD.v, need⟩ x).length c') (ptL ⟨traits, cl.map CrdD.v, tl.map TreD.v, need⟩ x).length ((ptL ⟨traits, cl.map CrdD.v, tl.map TreD.v, need⟩ x).flatMap intC) ∧ Below w.heap.size w w' := by
  have b1 := (Below.refl w.heap.size w).alloc (Nat.le_refl _) (.cells #[.int .i64 traits, .slice C cl.length c, .slice T tl.length t, .int .i64 need] 25)
  have k1 := Blk.new w #[.int .i64 traits, .slice C cl.length c, .slice T tl.length t, .int .i64 need] 25
  have k1c := k1.cell
  have b1s := b1.size
  by_cases q1 : mdlB ⟨traits, cl.map CrdD.v, tl.map TreD.v, need⟩ = true
  · by_cases q2 : valsB traits x = true
    · have hE : forE ⟨traits, cl.map CrdD.v, tl.map TreD.v, need⟩ x = 0 := by unfold forE; rw [if_pos q1]; exact if_pos q2
      have e1 : ptL ⟨traits, cl.map CrdD.v, tl.map TreD.v, need⟩ x = ptsL ⟨traits, cl.map CrdD.v, tl.map TreD.v, need⟩ x := by unfold ptL; rw [if_pos hE]
      have e2 : (ptsL ⟨traits, cl.map CrdD.v, tl.map TreD.v, need⟩ x).length = cl.length + tl.length := by unfold ptsL; simp
      rw [e1, e2, hE]
      clear hE e1 e2
      obtain ⟨_, hnd, p3, p4, _, _⟩ := mdlB_parts q1
      have hl := valsB_len q2
      have HC := Lib.hid (fun W hb => openFor_good traits need cl tl C T c t x X xc W (h.later (w' := W) hb) hls (hx.later hb) hxl q1 q2)
      have hls6 : cl.length ≤ 2 := by simpa using p3
      have hls7 : tl.length ≤ 2 := by simpa using p4
      have HSh := Lib.hid (fun (sh : List ShD) (hco : sh.map ShD.core = cl.map crdCore ++ tl.map treCore) (S : Option Addr) (s lo : Nat) W (hi : ShInv W lo S s (cl.length + tl.length) sh) (hb : Below w.heap.size w W) => hi.at_ (fun y hy q hq => ((core_parts h hco y hy q hq).below hb).more hb.size))
      have HS := Lib.hid (fun (sh : List ShD) (hco : sh.map ShD.core = cl.map crdCore ++ tl.map treCore) (S : Option Addr) (s : Nat) W (hlen : sh.length = cl.length + tl.length) (hat : SharesAt W W.heap.size S sh) (hb : Below w.heap.size w W) => show Calls Try.prog 19 #[.agg #[.int .i64 traits, .slice C cl.length c, .slice T tl.length t, .int .i64 need, .slice S (cl.length + tl.length) s], .slice X x.length xc] W (fun e w' => ∃ A' c', e = .returned (.slice A' (cl.length + tl.length) c') ∧ w'.ownsRow W.heap.size 3 1 (.slice A' (cl.length + tl.length) c') (cl.length + tl.length) ((ptsL ⟨traits, cl.map CrdD.v, tl.map TreD.v, need⟩ x).flatMap intC) ∧ Below W.heap.size W w') from by rw [← sh_points hco traits need x]; exact pointsP_inv traits need C T S cl.length c tl.length t s (cl.length + tl.length) sh x X xc W hlen hat (hx.later hb) (sh_ok q1 hl hco) (by omega) hxl)
      clear h hx hls
      generalize ptsL ⟨traits, cl.map CrdD.v, tl.map TreD.v, need⟩ x = L at *
      go_enter Try.func8, Try.ntmps8
      go_wp2_with (first
        | (go_at_call 14; (with_reducible refine (HC.out _ b1).mono ?_); rintro e w5 ⟨S, s, sh, rfl, hco, hat, h5⟩; have HO := Lib.hid hco; have HA := Lib.hid hat; clear hco hat; have b5 := b1.trans (h5.mono b1s); have b6 := b5.alloc b5.size (.cells #[.int .i64 traits, .slice C cl.length c, .slice T tl.length t, .int .i64 need, .slice S (cl.length + tl.length) s] 54); have ba := (Below.refl w5.heap.size w5).alloc (Nat.le_refl _) (.cells #[.int .i64 traits, .slice C cl.length c, .slice T tl.length t, .int .i64 need, .slice S (cl.length + tl.length) s] 54); have kw := Blk.new w5 #[.int .i64 traits, .slice C cl.length c, .slice T tl.length t, .int .i64 need, .slice S (cl.length + tl.length) s] 54; have kwc := kw.cell)
        | (go_at_call 19; (with_reducible refine (HS.out sh HO.out S s _ (ShInv.len HA.out) (HSh.out sh HO.out S s _ _ (HA.out.below ba) b6) b6).mono ?_); rintro e w7 ⟨A7, c7, rfl, hown, h7⟩; have HW := Lib.hid hown; clear hown))
      go_ret2
      exact ⟨A7, c7, rfl, own_base HW.out b6.size, b6.trans (h7.mono b6.size)⟩
    · have q2' : valsB traits x = false := by simpa using q2
      have hE : forE ⟨traits, cl.map CrdD.v, tl.map TreD.v, need⟩ x = 61 := by unfold forE; rw [if_pos q1]; exact if_neg q2
      have hR : ptL ⟨traits, cl.map CrdD.v, tl.map TreD.v, need⟩ x = [] := by unfold ptL; rw [hE]; rfl
      rw [hR, hE]
      have HC := Lib.hid (fun W hb => openFor_vals traits need cl tl C T c t x X xc W (h.later (w' := W) hb) hls (hx.later hb) hxl q1 q2')
      clear h hx hls hE hR q1 q2 q2'
      go_enter Try.func8, Try.ntmps8
      go_wp2_with (go_at_call 14; (with_reducible refine (HC.out _ b1).mono ?_); rintro e w5 ⟨rfl, h5⟩; have b5 := b1.trans (h5.mono b1s); have k5c := (Blk.new w5 #[.int .i64 0, .slice none 0 0, .slice none 0 0, .int .i64 0, .slice none 0 0] 54).cell)
      go_ret2
      exact ⟨none, 0, rfl, World.ownsRow_nil _ _ _ _, b5.alloc b5.size _⟩
  · have q1' : mdlB ⟨traits, cl.map CrdD.v, tl.map TreD.v, need⟩ = false := by simpa using q1
    have hE : forE ⟨traits, cl.map CrdD.v, tl.map TreD.v, need⟩ x = 60 := by unfold forE; exact if_neg q1
    have hR : ptL ⟨traits, cl.map CrdD.v, tl.map TreD.v, need⟩ x = [] := by unfold ptL; rw [hE]; rfl
    rw [hR, hE]
    have HC := Lib.hid (fun W hb => openFor_bad traits need cl tl C T c t x X xc W (h.later (w' := W) hb) hls q1')
    clear h hx hls hE hR q1 q1'
    go_enter Try.func8, Try.ntmps8
    go_wp2_with (go_at_call 14; (with_reducible refine (HC.out _ b1).mono ?_); rintro e w5 ⟨rfl, h5⟩; have b5 := b1.trans (h5.mono b1s); have k5c := (Blk.new w5 #[.int .i64 0, .slice none 0 0, .slice none 0 0, .int .i64 0, .slice none 0 0] 54).cell)
    go_ret2
    exact ⟨none, 0, rfl, World.ownsRow_nil _ _ _ _, b5.alloc b5.size _⟩
end Go.Proofs.Ytabdhioncklblaa

namespace Go.Proofs.Ytabdhioncklblaa
open Go.RowKit Go.Maps

set_option maxRecDepth 100000 in
set_option maxHeartbeats 4000000 in
theorem sameInts_any (l : List Int) (A B : Option Addr) (a b : Nat) (w : World) (h1 : IntsAt w w.heap.size A l) (h2 : IntsAt w w.heap.size B l) (hl : l.length ≤ 1000) :
    Calls Try.prog 12 #[.slice A l.length a, .slice B l.length b] w fun e w' => e = .returned (.bool true) ∧ Below w.heap.size w w' := by
  have hne : ((l.length : Int) != (l.length : Int)) = false := by simp
  go_enter Try.func12, Try.ntmps12
  go_wp2_with fail
  go_loopw [5] (fun ii wr => ∃ i : Nat, i ≤ l.length ∧ ii = .int .i64 i ∧ Hid (Below w.heap.size w wr)) (fun ii _ => l.length - (vInt ii).toNat)
  case atStart => exact ⟨0, Nat.zero_le _, rfl, Lib.hid (Below.refl _ _)⟩
  case round =>
    obtain ⟨i, hi, rfl, hR⟩ := hrel
    have hB := hR.out
    by_cases hlt : i < l.length
    · have hil : (i : Int) < (l.length : Int) := by omega
      obtain ⟨b1, off, rfl, hb, c0⟩ := ints_at (h1.later hB) hlt
      obtain ⟨b', off', rfl, hb', c0'⟩ := ints_at (h2.later hB) hlt
      have hq : (l[i] != l[i]) = false := by simp
      have d0 := After.cell (B := wr.heap.size) c0 hb
      have d1 := After.cell (B := wr.heap.size) c0' hb'
      clear hR
      generalize l[i] = y at *
      go_upto_region 6 with fail
      refine wp_region_class_lit (C := fun w' => ∃ z : After wr.heap.size wr, w' = z.val) (by kernel_rfl) (by kernel_rfl) ⟨⟨_, (Below.refl _ _).drew⟩, rfl⟩ ?_
      repeat (go_big_quiet_step (fail))
      refine wpQuiet_nil ?_
      intro wq hw'
      obtain ⟨⟨wz, hz⟩, hw''⟩ := hw'
      dsimp only at hw''
      subst hw''
      go_wp2_with fail
      go_roundw
      case rel => exact ⟨i + 1, by omega, by go_num, Lib.hid (hB.trans (hz.mono hB.size))⟩
      case measure => simp [vInt]; omega
    · have hil : ¬ (i : Int) < (l.length : Int) := by omega
      go_wp2_with fail
      go_ret
      exact ⟨rfl, hB⟩

set_option maxRecDepth 100000 in
set_option maxHeartbeats 4000000 in
theorem ints6_any (l : List Int) (A B : Option Addr) (a b : Nat) (w : World) (h1 : IntsAt w w.heap.size A l) (h2 : IntsAt w w.heap.size B l) (hl : l.length ≤ 1000) :
    Calls Try.prog 26 #[.slice A l.length a, .slice B l.length b] w fun e w' => e = .returned (.bool true) ∧ Below w.heap.size w w' := by
  have hne : ((l.length : Int) != (l.length : Int)) = false := by simp
  go_enter Try.func26, Try.ntmps26
  go_wp2_with fail
  go_loopw [5] (fun ii wr => ∃ i : Nat, i ≤ l.length ∧ ii = .int .i64 i ∧ Hid (Below w.heap.size w wr)) (fun ii _ => l.length - (vInt ii).toNat)
  case atStart => exact ⟨0, Nat.zero_le _, rfl, Lib.hid (Below.refl _ _)⟩
  case round =>
    obtain ⟨i, hi, rfl, hR⟩ := hrel
    have hB := hR.out
    by_cases hlt : i < l.length
    · have hil : (i : Int) < (l.length : Int) := by omega
      obtain ⟨b1, off, rfl, hb, c0⟩ := ints_at (h1.later hB) hlt
      obtain ⟨b', off', rfl, hb', c0'⟩ := ints_at (h2.later hB) hlt
      have hq : (l[i] != l[i]) = false := by simp
      have d0 := After.cell (B := wr.heap.size) c0 hb
      have d1 := After.cell (B := wr.heap.size) c0' hb'
      clear hR
      generalize l[i] = y at *
      go_upto_region 6 with fail
      refine wp_region_class_lit (C := fun w' => ∃ z : After wr.heap.size wr, w' = z.val) (by kernel_rfl) (by kernel_rfl) ⟨⟨_, (Below.refl _ _).drew⟩, rfl⟩ ?_
      repeat (go_big_quiet_step (fail))
      refine wpQuiet_nil ?_
      intro wq hw'
      obtain ⟨⟨wz, hz⟩, hw''⟩ := hw'
      dsimp only at hw''
      subst hw''
      go_wp2_with fail
      go_roundw
      case rel => exact ⟨i + 1, by omega, by go_num, Lib.hid (hB.trans (hz.mono hB.size))⟩
      case measure => simp [vInt]; omega
    · have hil : ¬ (i : Int) < (l.length : Int) := by omega
      go_wp2_with fail
      go_ret
      exact ⟨rfl, hB⟩
end Go.Proofs.Ytabdhioncklblaa
