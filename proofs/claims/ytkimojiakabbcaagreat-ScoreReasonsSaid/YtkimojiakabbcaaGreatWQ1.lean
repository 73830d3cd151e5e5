/- What stays in memory that is partly stored into. -/
import Derived.Test.YtkimojiakabbcaaGreatRExSP1
import Derived.Test.YtkimojiakabbcaaGreatSPrg8
import Derived.Laws.AppendOwnNone
import Derived.Test.YtkimojiakabbcaaGreatSRef6
import Derived.Deep.RegionLawGrows
import Derived.Deep.AppendSrc

namespace Go.Proofs.YtkimojiakabbcaaGreat
open Go.RowKit Go.Maps

/-- All blocks with P stay. -/
structure Fr (P : Nat → Prop) (w w' : World) : Prop where
  size : w.heap.size ≤ w'.heap.size
  blk : ∀ b, b < w.heap.size → P b → w'.heap[b]? = w.heap[b]?
section
variable {P Q : Nat → Prop} {w w' w'' : World}
theorem Fr.refl (P : Nat → Prop) (w : World) : Fr P w w := ⟨Nat.le_refl _, fun _ _ _ => rfl⟩
theorem Fr.trans (h : Fr P w w') (h' : Fr P w' w'') : Fr P w w'' := ⟨Nat.le_trans h.size h'.size, fun b hb hp => (h'.blk b (Nat.lt_of_lt_of_le hb h.size) hp).trans (h.blk b hb hp)⟩
theorem Fr.below (h : Below w.heap.size w w') : Fr P w w' := ⟨h.size, fun b hb _ => h.block b hb⟩
theorem Fr.set {p : Addr} (hp : ¬ P p.block) (v : Value) : Fr P w (w.setCell p v) := ⟨by simp, fun b _ hb => Below.heap_setCell _ _ _ _ (fun e => hp (e ▸ hb))⟩
theorem Fr.grown {row : Option Nat} (h : w.grownBy w' row) (hr : ∀ b, P b → some b ≠ row) : Fr P w w' := ⟨h.size, fun b hb hp => h.block b hb (hr b hp)⟩
theorem Fr.imp (h : Fr P w w') (hq : ∀ b, Q b → P b) : Fr Q w w' := ⟨h.size, fun b hb hp => h.blk b hb (hq b hp)⟩
theorem Fr.cell (h : Fr P w w') {b o : Nat} (hb : b < w.heap.size) (hp : P b) : w'.cell? ⟨b, o, none⟩ = w.cell? ⟨b, o, none⟩ := World.cell?_of_block (h.blk b hb hp)
end
def FlatP {α : Type} (n : Nat) (f : α → List Value) (w : World) (P : Nat → Prop) (A : Option Addr) (l : List α) : Prop :=
  ∀ k, (h : k < l.length) → ∃ b off, A = some ⟨b, off, none⟩ ∧ b < w.heap.size ∧ P b ∧ ∀ i, i < n → w.cell? ⟨b, off + k * n + i, none⟩ = (f l[k])[i]?
section
variable {α : Type} {n : Nat} {f : α → List Value} {w w' : World} {P Q : Nat → Prop} {A : Option Addr} {l : List α}
theorem FlatP.flat (h : FlatP n f w P A l) : Flat n f w w.heap.size A l := fun k hk => by
  obtain ⟨b, off, e, h2, _, h4⟩ := h k hk
  exact ⟨b, off, e, h2, h4⟩
theorem FlatP.move (h : FlatP n f w P A l) (hf : Fr P w w') : FlatP n f w' P A l := fun k hk => by
  obtain ⟨b, off, e, h1, h2, h3⟩ := h k hk
  exact ⟨b, off, e, Nat.lt_of_lt_of_le h1 hf.size, h2, fun i hi => (hf.cell h1 h2).trans (h3 i hi)⟩
theorem FlatP.imp (h : FlatP n f w P A l) (hq : ∀ b, b < w.heap.size → P b → Q b) : FlatP n f w Q A l := fun k hk => by
  obtain ⟨b, off, e, h1, h2, h3⟩ := h k hk
  exact ⟨b, off, e, h1, hq b h1 h2, h3⟩
theorem FlatP.of_flat {B : Nat} (h : Flat n f w B A l) (hB : B ≤ w.heap.size) (hP : ∀ b, b < B → P b) : FlatP n f w P A l := fun k hk => by
  obtain ⟨b, off, e, h1, h3⟩ := h k hk
  exact ⟨b, off, e, Nat.lt_of_lt_of_le h1 hB, hP b h1, h3⟩
theorem FlatP.of_own (hn : ∀ x, (f x).length = n) (h0 : 0 < n) {base : Nat} {c : Nat} {t : TypeId} (h : w.ownsRow base t n (.slice A l.length c) l.length (l.flatMap f)) (hP : ∀ b, base ≤ b → b < w.heap.size → (Value.slice A l.length c).ownBlock = some b → P b) : FlatP n f w P A l := fun k hk => by
  obtain ⟨b, off, e, h2, h4⟩ := Flat.of_own hn h0 h k hk
  subst e
  have h5 := h.lt b rfl
  exact ⟨b, off, rfl, h2, hP b h5.1 h2 rfl, h4⟩
theorem FlatP.news (hn : ∀ x, (f x).length = n) (h0 : 0 < n) (h : FlatP n f w P A l) : ∀ ad, A = some ad → ∀ j u, (l.flatMap f)[j]? = some u → w.cell? (ad.add j) = some u := Flat.news hn h0 h.flat
theorem FlatP.none_ (h : FlatP n f w P none l) : l.length = 0 := Flat.none_ h.flat
end
structure SclP (w : World) (P : Nat → Prop) (x : SclD) : Prop where
  cuts : FlatP 1 intC w P x.A x.v.cuts
  pts : FlatP 1 intC w P x.B x.v.pts
structure SclsP (w : World) (P : Nat → Prop) (A : Option Addr) (l : List SclD) : Prop where
  row : FlatP 3 sclC w P A l
  each : ∀ x ∈ l, SclP w P x
section
variable {w w' : World} {P Q : Nat → Prop}
theorem SclP.move {x : SclD} (h : SclP w P x) (hf : Fr P w w') : SclP w' P x := ⟨h.cuts.move hf, h.pts.move hf⟩
theorem SclP.imp {x : SclD} (h : SclP w P x) (hq : ∀ b, b < w.heap.size → P b → Q b) : SclP w Q x := ⟨h.cuts.imp hq, h.pts.imp hq⟩
theorem SclsP.move {A : Option Addr} {l : List SclD} (h : SclsP w P A l) (hf : Fr P w w') : SclsP w' P A l := ⟨h.row.move hf, fun x hx => (h.each x hx).move hf⟩
theorem SclsP.imp {A : Option Addr} {l : List SclD} (h : SclsP w P A l) (hq : ∀ b, b < w.heap.size → P b → Q b) : SclsP w Q A l := ⟨h.row.imp hq, fun x hx => (h.each x hx).imp hq⟩
theorem SclsP.at_ {A : Option Addr} {l : List SclD} (h : SclsP w P A l) : SclsAt w w.heap.size A l := ⟨h.row.flat, fun x hx => ⟨(h.each x hx).cuts.flat, (h.each x hx).pts.flat⟩⟩
theorem SclsP.of_at {B : Nat} {A : Option Addr} {l : List SclD} (h : SclsAt w B A l) (hB : B ≤ w.heap.size) (hP : ∀ b, b < B → P b) : SclsP w P A l := ⟨.of_flat h.row hB hP, fun x hx => ⟨.of_flat (h.each x hx).cuts hB hP, .of_flat (h.each x hx).pts hB hP⟩⟩
end
/-- An element of an owned row, turned. -/
theorem flat_set {α : Type} {f : α → List Value} {n : Nat} (hn : ∀ x, (f x).length = n) : ∀ (l : List α) (k : Nat) (h : k < l.length) (y : α) (j : Nat) (u : Value), j < n → f y = (f l[k]).set j u → (l.set k y).flatMap f = (l.flatMap f).set (k * n + j) u
  | x :: l, 0, _, y, j, u, hj, e => by
    show f y ++ l.flatMap f = (f x ++ l.flatMap f).set (0 * n + j) u
    rw [Nat.zero_mul, Nat.zero_add, List.set_append_left _ _ (by rw [hn]; exact hj)]
    congr 1
  | x :: l, k + 1, h, y, j, u, hj, e => by
    have h1 := flat_set hn l k (by simpa using h) y j u hj e
    have e2 : (k + 1) * n + j = (f x).length + (k * n + j) := by rw [hn, Nat.succ_mul]; omega
    show f x ++ (l.set k y).flatMap f = (f x ++ l.flatMap f).set ((k + 1) * n + j) u
    rw [h1, e2, List.set_append_right _ _ (by omega), Nat.add_sub_cancel_left]
end Go.Proofs.YtkimojiakabbcaaGreat

namespace Go.Proofs.YtkimojiakabbcaaGreat
open Go.RowKit Go.Maps

theorem cardInfo : (Tryz.prog.info? 57).map (fun i => (i.zero, i.size, i.bytes)) = some (some (.agg #[.int .i64 0, .int .i64 0, .slice none 0 0]), 3, 40) := by kernel_rfl
theorem treeInfo : (Tryz.prog.info? 41).map (fun i => (i.zero, i.size, i.bytes)) = some (some (.agg #[.int .i64 0, .slice none 0 0]), 2, 32) := by kernel_rfl
theorem scaleInfo : (Tryz.prog.info? 59).map (fun i => (i.zero, i.size, i.bytes)) = some (some (.agg #[.slice none 0 0, .slice none 0 0, .int .i64 0]), 3, 56) := by kernel_rfl
theorem nodeInfo : (Tryz.prog.info? 38).map (fun i => (i.zero, i.size, i.bytes)) = some (some (.agg #[.int .i64 0, .int .i64 0, .int .i64 0, .int .i64 0, .int .i64 0]), 5, 40) := by kernel_rfl
section
variable {P : Program} (w : World)
/-- Nothing is appended to a row of the call's own. -/
theorem run_append_nothing (base : Nat) (t ty e : TypeId) (i : TypeInfo) (size : Nat) (ht : P.underlying t = some (.slice e)) (hi : P.info? e = some i)
    (v : Value) (n : Nat) (xs : List Value) (hown : w.ownsRow base e size v n xs) (c : Nat) : (Builtin.append_ #[t, t] ty #[v, .slice none 0 c]).run P w = .ok v w := by
  rcases hown.2 with ⟨rfl, rfl⟩ | ⟨g, cap, cur, rfl, _, _, hnc, _⟩
  · simp [Builtin.append_, run_underlying ht, sizeOf, typeInfo, hi, Builtin.lenOf, Builtin.firstCells]
  · simp [Builtin.append_, run_underlying ht, sizeOf, typeInfo, hi, Builtin.lenOf, Builtin.firstCells, hnc, storeCells]

/-- 'append(out, src...)', out the call's own, src whatever: nil, empty or not. -/
theorem wpList_append_src {ops : Array Oper} {rest : List Oper} {o : Oper} {a : Act} {Q : Exit → Act → World → Prop} (hgd : o.guard = none) (s x : Operand) (t : TypeId)
    (ho : o.op = .call { callee := .builtin .append, args := #[s, x], argTypes := #[t, t] })
    (base : Nat) (e : TypeId) (i : TypeInfo) (z : Value) (size bytes : Nat) (ht : P.underlying t = some (.slice e)) (hi : P.info? e = some i) (hz : i.zero = some z)
    (hsize : i.size = size) (hby : i.bytes = bytes) (hzs : z.cells.size = size) (hsz : 0 < size)
    (v : Value) (n : Nat) (xs : List Value) (hs : a.eval s = v) (hown : w.ownsRow base e size v n xs)
    (A : Option Addr) (m c : Nat) (news : List Value) (hx : a.eval x = .slice A m c) (hl : news.length = m * size) (hA : A = none → m = 0) (hnews : ∀ ad, A = some ad → ∀ j u, news[j]? = some u → w.cell? (ad.add j) = some u)
    (h1 : ∀ u ∈ news, u.oneCell' = true) (h63 : n + m ≤ maxLen) (hbytes : (n + m) * bytes ≤ 140737488355328) (hbase : base ≤ w.heap.size)
    (h : ∀ v' w', w'.ownsRow base e size v' (n + m) (xs ++ news) → w.grownBy w' v.ownBlock → (v'.ownBlock = v.ownBlock ∨ v'.ownBlock = some w.heap.size) → wpList P ops Q rest (a.put o.dst v') w') : wpList P ops Q (o :: rest) a w := by
  cases A with
  | some ad => exact wpList_append_own_at w hgd s x t ho base e i z size bytes ht hi hz hsize hby hzs hsz v n xs hs hown ad m c news hx hl (hnews ad rfl) h1 h63 hbytes hbase fun v' w' h2 h3 _ h5 => h v' w' h2 h3 h5
  | none =>
    obtain rfl := hA rfl
    have hn : news = [] := List.eq_nil_of_length_eq_zero (by simpa using hl)
    subst hn
    refine wpList_plain hgd fun K hK => ?_
    have hrun := run_append_nothing (P := P) w base t o.type e i size ht hi v n xs hown c
    unfold Oper.wp execOp
    simp only [ho, resolve, invoke, builtin, Sem.run_bind, Sem.run_pure, Result.andThen_ok, List.map_toArray, List.map_cons, List.map_nil, hs, hx, hrun]
    exact hK _ _ (h v w (by simpa using hown) (World.grownBy.refl w _) (.inl rfl))
end
/-- 'append(out, src...)' at a step of a region that draws. -/
theorem step_append_src {P : Program} {w : World} {ops : Array Oper} {o : Oper} {a : Act} {K : Act → World → Prop} {Q : Exit → Act → World → Prop} {E : Prop} (hgd : o.guard = none) (s x : Operand) (t : TypeId)
    (ho : o.op = .call { callee := .builtin .append, args := #[s, x], argTypes := #[t, t] })
    (base : Nat) (e : TypeId) (i : TypeInfo) (z : Value) (size bytes : Nat) (ht : P.underlying t = some (.slice e)) (hi : P.info? e = some i) (hz : i.zero = some z)
    (hsize : i.size = size) (hby : i.bytes = bytes) (hzs : z.cells.size = size) (hsz : 0 < size)
    (v : Value) (n : Nat) (xs : List Value) (hs : a.eval s = v) (hown : w.ownsRow base e size v n xs)
    (A : Option Addr) (m c : Nat) (news : List Value) (hx : a.eval x = .slice A m c) (hl : news.length = m * size) (hA : A = none → m = 0) (hnews : ∀ ad, A = some ad → ∀ j u, news[j]? = some u → w.cell? (ad.add j) = some u)
    (h1 : ∀ u ∈ news, u.oneCell' = true) (h63 : n + m ≤ maxLen) (hbytes : (n + m) * bytes ≤ 140737488355328) (hbase : base ≤ w.heap.size)
    (h : ∀ v' w', w'.ownsRow base e size v' (n + m) (xs ++ news) → w.grownBy w' v.ownBlock → (v'.ownBlock = v.ownBlock ∨ v'.ownBlock = some w.heap.size) → K (a.put o.dst v') w') :
    if Region.wanted o (yielded ops a.tmps) = true then Oper.wp P o a w K Q else E := by
  have hw : Region.wanted o (yielded ops a.tmps) = true := by simp [Region.wanted, hgd]
  rw [if_pos hw]
  cases A with
  | some ad =>
    obtain ⟨v', w', hr, h2, h3, _, h5⟩ := run_append_own_at (P := P) w base t o.type e i z size bytes ht hi hz hsize hby hzs hsz v n xs hown ad m c news hl (hnews ad rfl) h1 h63 hbytes hbase
    unfold Oper.wp execOp
    simp only [ho, resolve, invoke, builtin, Sem.run_bind, Sem.run_pure, Result.andThen_ok, List.map_toArray, List.map_cons, List.map_nil, hs, hx, hr]
    exact h v' w' h2 h3 h5
  | none =>
    obtain rfl := hA rfl
    have hn : news = [] := List.eq_nil_of_length_eq_zero (by simpa using hl)
    subst hn
    have hrun := run_append_nothing (P := P) w base t o.type e i size ht hi v n xs hown c
    unfold Oper.wp execOp
    simp only [ho, resolve, invoke, builtin, Sem.run_bind, Sem.run_pure, Result.andThen_ok, List.map_toArray, List.map_cons, List.map_nil, hs, hx, hrun]
    exact h v w (by simpa using hown) (World.grownBy.refl w _) (.inl rfl)
theorem own_drew {w : World} {base : Nat} {e : TypeId} {size n : Nat} {v : Value} {xs : List Value} (h : w.ownsRow base e size v n xs) : w.drew.ownsRow base e size v n xs := h
end Go.Proofs.YtkimojiakabbcaaGreat

namespace Go.Proofs.YtkimojiakabbcaaGreat
open Go.RowKit Go.Maps

theorem mod4_put {w : World} {g : Nat} {a0 a1 a2 a3 c1 : Value} {t : TypeId} (h : Blk w g #[a0, a1, a2, a3] t) : Blk (w.setCell ⟨g, 1, none⟩ c1) g #[a0, c1, a2, a3] t := by
  have := h.set 1 c1
  simpa using this
/-- Neither the model's block nor the answer's, nor a row's. -/
def Nt (b0 : Nat) (row : Option Nat) (b : Nat) : Prop := (b < b0 ∨ b0 + 1 < b) ∧ some b ≠ row
/-- The cards, of which some are new. -/
structure TB (b0 : Nat) (wr : World) (A1 : Option Addr) (n c1 : Nat) (cl ml : List CrdD) : Prop where
  eq : ml.map CrdD.v = cl.map CrdD.v
  len : ml.length = n
  own : wr.ownsRow (b0 + 1 + 1) 57 3 (.slice A1 n c1) n (ml.flatMap crdC)
  each : ∀ x ∈ ml, SclsP wr (Nt b0 (Value.slice A1 n c1).ownBlock) x.S x.scales

/-- The scales of one card, of which some are new. -/
structure SI (b0 g lo : Nat) (wr : World) (S1 : Option Addr) (n s1 : Nat) (sl sl2 : List SclD) : Prop where
  eq : sl2.map SclD.v = sl.map SclD.v
  len : sl2.length = n
  own : wr.ownsRow lo 59 3 (.slice S1 n s1) n (sl2.flatMap sclC)
  each : ∀ x ∈ sl2, SclP wr (fun b => Nt b0 (some g) b ∧ some b ≠ (Value.slice S1 n s1).ownBlock) x
theorem grown_fresh {B g n c : Nat} {w W w' : World} (hg : W.grownBy w' (Value.slice (some ⟨g, 0, none⟩) n c).ownBlock) (hB : Below B w W) (hb : B ≤ W.heap.size) (hBg : B ≤ g) : Below B w w' := hB.grown hg hb (fun k e => by have e2 : g = k := Option.some.inj e; omega)
theorem blk_fresh {g g' n c : Nat} {W w' : World} {cs : Array Value} {t : TypeId} (hg : W.grownBy w' (Value.slice (some ⟨g, 0, none⟩) n c).ownBlock) (h : Blk W g' cs t) (hne : g' ≠ g) : Blk w' g' cs t := h.grown hg (fun e => hne (Option.some.inj e))
theorem own_blk {W : World} {g base size : Nat} {t : TypeId} (h : Blk W g #[] t) (hb : base ≤ g) : W.ownsRow base t size (.slice (some ⟨g, 0, none⟩) 0 0) 0 [] :=
  ⟨by simp, .inr ⟨g, 0, #[], rfl, hb, h, Nat.le_refl _, by simp [maxLen], by simp, by simp⟩⟩

theorem own_fr {w w' : World} {P : Nat → Prop} {base : Nat} {e : TypeId} {size n : Nat} {v : Value} {xs : List Value} (h : w.ownsRow base e size v n xs) (hF : Fr P w w') (hP : ∀ g, v.ownBlock = some g → P g) : w'.ownsRow base e size v n xs := by
  refine ⟨h.1, ?_⟩
  rcases h.2 with h0 | ⟨g, cap, cur, h1, h2, h3, h4⟩
  · exact .inl h0
  · exact .inr ⟨g, cap, cur, h1, h2, (hF.blk g (Array.getElem?_eq_some_iff.1 h3).1 (hP g (by rw [h1]; rfl))).trans h3, h4⟩
theorem map_set_same {α β : Type} (f : α → β) (l : List α) (i : Nat) (h : i < l.length) (y : α) (hy : f y = f l[i]) : (l.set i y).map f = l.map f := by
  apply List.ext_getElem
  · simp
  · intro q h1 h2
    rw [List.getElem_map, List.getElem_map, List.getElem_set]
    split
    · rename_i e; subst e; exact hy
    · rfl
theorem tb_set {b0 g i n c1 s s1 : Nat} {w0 wc we : World} {cl ml : List CrdD} {wt base : Int} {sl sl2 : List SclD} {S S1 : Option Addr} (HT : TB b0 w0 (some ⟨g, 0, none⟩) n c1 cl ml) (hi : i < ml.length) (hY : ml[i] = ⟨wt, base, sl, S, s⟩)
    (oC : wc.ownsRow (b0 + 1 + 1) 57 3 (.slice (some ⟨g, 0, none⟩) n c1) n ((ml.flatMap crdC).set (i * 3 + 2) (.slice S1 sl.length s1))) (hF : Fr (fun b => b ≠ g) w0 wc) (hFk : Fr (fun b => some b ≠ (Value.slice S1 sl.length s1).ownBlock) wc we)
    (HS : SI b0 g w0.heap.size we S1 sl.length s1 sl sl2) (hb0 : b0 + 1 < w0.heap.size) (hg : g < w0.heap.size) : TB b0 we (some ⟨g, 0, none⟩) n c1 cl (ml.set i ⟨wt, base, sl2, S1, s1⟩) := by
  have hS1 : ∀ b, b < w0.heap.size → some b ≠ (Value.slice S1 sl.length s1).ownBlock := fun b hb e => by have := (HS.own.lt b e.symm).1; omega
  refine ⟨?_, by rw [List.length_set]; exact HT.len, ?_, fun x hx => ?_⟩
  · rw [map_set_same CrdD.v ml i hi _ (by rw [hY]; simp only [CrdD.v]; rw [HS.eq]), HT.eq]
  · have e := flat_set crdC_len ml i hi ⟨wt, base, sl2, S1, s1⟩ 2 (.slice S1 sl.length s1) (by omega) (by rw [hY]; simp only [crdC]; rw [HS.len]; rfl)
    rw [e]
    exact own_fr oC hFk (fun g' e' => by cases e'; exact hS1 g hg)
  · rcases List.mem_or_eq_of_mem_set hx with h1 | h1
    · have h2 := (HT.each x h1).imp (Q := fun b => Nt b0 (some g) b ∧ some b ≠ (Value.slice S1 sl.length s1).ownBlock) (fun b hb hp => ⟨hp, hS1 b hb⟩)
      exact ((h2.move (hF.imp (fun b hp e => hp.1.2 (by rw [e])))).move (hFk.imp (fun b hp => hp.2))).imp (fun b _ hp => hp.1)
    · subst h1
      refine ⟨?_, fun y hy => (HS.each y hy).imp (fun b _ hp => hp.1)⟩
      have h3 := HS.own
      rw [← HS.len] at h3
      exact FlatP.of_own sclC_len (by decide) h3 (fun b hb1 _ _ => ⟨.inr (by omega), fun e' => by have e2 : b = g := Option.some.inj e'; omega⟩)
/-- What is appended to one row stays when another row is appended to. -/
theorem own_over {lo f9 n size : Nat} {w8 W2 w9 : World} {e : TypeId} {v : Value} {xs : List Value} {row : Option Nat} (h8 : w8.ownsRow lo e size v n xs) (hB : Below w8.heap.size w8 W2) (hg : W2.grownBy w9 row) (hr : row = some f9) (hne : ∀ b, v.ownBlock = some b → b ≠ f9) : w9.ownsRow lo e size v n xs := by
  subst hr
  have h2 := own_below h8 hB
  refine ⟨h2.1, ?_⟩
  rcases h2.2 with h0 | ⟨g, cap, cur, h1, h3, h4, h5⟩
  · exact .inl h0
  · exact .inr ⟨g, cap, cur, h1, h3, (hg.block g (Array.getElem?_eq_some_iff.1 h4).1 (fun e' => hne g (by rw [h1]; rfl) (Option.some.inj e'))).trans h4, h5⟩
/-- Its block is the fresh one, or newer than all. -/
theorem fresh_ne {v : Value} {f8 f9 s : Nat} {r : Option Nat} (ho : v.ownBlock = r ∨ v.ownBlock = some s) (hr : r = some f8) (h1 : f8 ≠ f9) (h2 : s ≠ f9) : ∀ b, v.ownBlock = some b → b ≠ f9 := by
  subst hr
  intro b hb
  rcases ho with e | e <;> (rw [hb] at e; have := Option.some.inj e; omega)
/-- A scale in new memory. -/
theorem si_put {b0 g lo k n s1 gs q8 q9 a b : Nat} {w0 w9 : World} {sl sl2 : List SclD} {v : Scl} {A B A8 A9 : Option Addr} (HS : SI b0 g lo w0 (some ⟨gs, 0, none⟩) n s1 sl sl2) (hk : k < sl2.length) (hz : sl2[k] = ⟨v, A, a, B, b⟩) (hgs : gs < w0.heap.size) (_hlo : lo ≤ gs) (h0 : b0 + 1 < w0.heap.size) (hg0 : g < w0.heap.size)
    (hb9 : Below w0.heap.size w0 w9) (h8 : w9.ownsRow w0.heap.size 3 1 (.slice A8 v.cuts.length q8) v.cuts.length (v.cuts.flatMap intC)) (h9 : w9.ownsRow w0.heap.size 3 1 (.slice A9 v.pts.length q9) v.pts.length (v.pts.flatMap intC)) :
    SI b0 g lo ((w9.setCell ⟨gs, k * 3, none⟩ (.slice A8 v.cuts.length q8)).setCell ⟨gs, k * 3 + 1, none⟩ (.slice A9 v.pts.length q9)) (some ⟨gs, 0, none⟩) n s1 sl (sl2.set k ⟨v, A8, q8, A9, q9⟩) := by
  have hF : Fr (fun b => b ≠ gs) w9 ((w9.setCell ⟨gs, k * 3, none⟩ (.slice A8 v.cuts.length q8)).setCell ⟨gs, k * 3 + 1, none⟩ (.slice A9 v.pts.length q9)) := (Fr.set (p := ⟨gs, k * 3, none⟩) (fun e => e rfl) _).trans (Fr.set (p := ⟨gs, k * 3 + 1, none⟩) (fun e => e rfl) _)
  refine ⟨?_, by rw [List.length_set]; exact HS.len, ?_, fun x hx => ?_⟩
  · rw [map_set_same SclD.v sl2 k hk _ (by rw [hz]), HS.eq]
  · have e1 := flat_set sclC_len sl2 k hk ⟨v, A8, q8, B, b⟩ 0 (.slice A8 v.cuts.length q8) (by omega) (by rw [hz]; rfl)
    have e2 := flat_set sclC_len (sl2.set k ⟨v, A8, q8, B, b⟩) k (by rw [List.length_set]; exact hk) ⟨v, A8, q8, A9, q9⟩ 1 (.slice A9 v.pts.length q9) (by omega) (by rw [List.getElem_set_self]; rfl)
    rw [List.set_set] at e2
    rw [e2, e1, Nat.add_zero]
    exact (((own_below HS.own hb9).stored (k * 3) (.slice A8 v.cuts.length q8)).1.stored (k * 3 + 1) (.slice A9 v.pts.length q9)).1
  · have hP : ∀ b, w0.heap.size ≤ b → Nt b0 (some g) b ∧ some b ≠ (Value.slice (some ⟨gs, 0, none⟩) n s1).ownBlock := fun b hb => ⟨⟨.inr (by omega), fun e => by have := Option.some.inj e; omega⟩, fun e => by have e2 : b = gs := Option.some.inj e; omega⟩
    rcases List.mem_or_eq_of_mem_set hx with h1 | h1
    · exact ((HS.each x h1).move (Fr.below hb9)).move (hF.imp (fun b hp e => hp.2 (by rw [e]; rfl)))
    · subst h1
      refine ⟨(FlatP.of_own intC_len (by decide) h8 (fun b hb _ _ => hP b hb)).move (hF.imp (fun b hp e => hp.2 (by rw [e]; rfl))), (FlatP.of_own intC_len (by decide) h9 (fun b hb _ _ => hP b hb)).move (hF.imp (fun b hp e => hp.2 (by rw [e]; rfl)))⟩
end Go.Proofs.YtkimojiakabbcaaGreat

namespace Go.Proofs.YtkimojiakabbcaaGreat
open Go.RowKit Go.Maps

theorem Fr.of_below {P : Nat → Prop} {B : Nat} {w w' : World} (h : Below B w w') (hP : ∀ b, P b → b < B) : Fr P w w' := ⟨h.size, fun b _ hp => h.block b (hP b hp)⟩
/-- Cards in blocks with P. -/
structure CP (w : World) (P : Nat → Prop) (A : Option Addr) (l : List CrdD) : Prop where
  row : FlatP 3 crdC w P A l
  each : ∀ x ∈ l, SclsP w P x.S x.scales
section
variable {w w' : World} {P Q : Nat → Prop} {A : Option Addr} {l : List CrdD}
theorem CP.move (h : CP w P A l) (hf : Fr P w w') : CP w' P A l := ⟨h.row.move hf, fun x hx => (h.each x hx).move hf⟩
theorem CP.imp (h : CP w P A l) (hq : ∀ b, b < w.heap.size → P b → Q b) : CP w Q A l := ⟨h.row.imp hq, fun x hx => (h.each x hx).imp hq⟩
theorem CP.at_ (h : CP w P A l) : CrdsAt w w.heap.size A l := ⟨h.row.flat, fun x hx => (h.each x hx).at_⟩
end
theorem TB.cp {b0 n c1 : Nat} {w : World} {A1 : Option Addr} {cl ml : List CrdD} (h : TB b0 w A1 n c1 cl ml) : CP w (fun b => b < b0 ∨ b0 + 1 < b) A1 ml := by
  have h1 := h.own
  rw [← h.len] at h1
  exact ⟨FlatP.of_own crdC_len (by decide) h1 (fun b hb _ _ => .inr (by omega)), fun x hx => (h.each x hx).imp (fun b _ hp => hp.1)⟩
/-- The trees, of which some are new. -/
structure TTB (b0 lo : Nat) (wr : World) (T1 : Option Addr) (n t1 : Nat) (tl ml : List TreD) : Prop where
  eq : ml.map TreD.v = tl.map TreD.v
  len : ml.length = n
  own : wr.ownsRow lo 41 2 (.slice T1 n t1) n (ml.flatMap treC)
  each : ∀ x ∈ ml, FlatP 5 nodC wr (Nt b0 (Value.slice T1 n t1).ownBlock) x.T x.v.nodes
theorem tt_put {b0 lo i n t1 g s1 t0 : Nat} {wr w8 : World} {tl ml : List TreD} {v : Tre} {T0 S1 : Option Addr} (HT : TTB b0 lo wr (some ⟨g, 0, none⟩) n t1 tl ml) (hi : i < ml.length) (hz : ml[i] = ⟨v, T0, t0⟩) (hg : g < wr.heap.size) (h0 : b0 + 1 < wr.heap.size)
    (hb8 : Below wr.heap.size wr w8) (h8 : w8.ownsRow wr.heap.size 38 5 (.slice S1 v.nodes.length s1) v.nodes.length (v.nodes.flatMap nodC)) :
    TTB b0 lo (w8.setCell ⟨g, i * 2 + 1, none⟩ (.slice S1 v.nodes.length s1)) (some ⟨g, 0, none⟩) n t1 tl (ml.set i ⟨v, S1, s1⟩) := by
  have hF : Fr (fun b => b ≠ g) w8 (w8.setCell ⟨g, i * 2 + 1, none⟩ (.slice S1 v.nodes.length s1)) := Fr.set (p := ⟨g, i * 2 + 1, none⟩) (fun e => e rfl) _
  refine ⟨?_, by rw [List.length_set]; exact HT.len, ?_, fun x hx => ?_⟩
  · rw [map_set_same TreD.v ml i hi _ (by rw [hz]), HT.eq]
  · have e1 := flat_set treC_len ml i hi ⟨v, S1, s1⟩ 1 (.slice S1 v.nodes.length s1) (by omega) (by rw [hz]; rfl)
    rw [e1]
    exact ((own_below HT.own hb8).stored (i * 2 + 1) (.slice S1 v.nodes.length s1)).1
  · rcases List.mem_or_eq_of_mem_set hx with h1 | h1
    · exact ((HT.each x h1).move (Fr.below hb8)).move (hF.imp (fun b hp e => hp.2 (by rw [e]; rfl)))
    · subst h1
      exact (FlatP.of_own nodC_len (by decide) h8 (fun b hb _ _ => (⟨.inr (by omega), fun e => by have e2 : b = g := Option.some.inj e; omega⟩ : Nt b0 (some g) b))).move (hF.imp (fun b hp e => hp.2 (by rw [e])))
theorem TTB.at_ {b0 lo n t1 : Nat} {wr : World} {T1 : Option Addr} {tl ml : List TreD} (h : TTB b0 lo wr T1 n t1 tl ml) : TresAt wr wr.heap.size T1 ml := by
  have h1 := h.own
  rw [← h.len] at h1
  exact ⟨Flat.of_own treC_len (by decide) h1, fun x hx => (h.each x hx).flat⟩
/-- What the twin of a model is. -/
def TwinS (w : World) (traits need : Int) (cl : List CrdD) (tl : List TreD) (e : Ending) (w' : World) : Prop :=
  ∃ cl' tl' C' c' T' t', e = .returned (.agg #[.int .i64 traits, .slice C' (List.length cl') c', .slice T' (List.length tl') t', .int .i64 need]) ∧ cl'.map CrdD.v = cl.map CrdD.v ∧ tl'.map TreD.v = tl.map TreD.v ∧ MdlAt w' w'.heap.size ⟨traits, cl', C', c', tl', T', t', need⟩ ∧ Below w.heap.size w w'
/-- As large as the other one. -/
theorem MdlLe.twin {traits traits' need need' : Int} {cl cl' : List CrdD} {tl tl' : List TreD} {C C' T T' : Option Addr} {c c' t t' : Nat} (h : MdlLe ⟨traits, cl, C, c, tl, T, t, need⟩) (hc : cl'.map CrdD.v = cl.map CrdD.v) (ht : tl'.map TreD.v = tl.map TreD.v) : MdlLe ⟨traits', cl', C', c', tl', T', t', need'⟩ := by
  have e1 : cl'.length = cl.length := by simpa using congrArg List.length hc
  have e2 : tl'.length = tl.length := by simpa using congrArg List.length ht
  have hcm : ∀ x ∈ cl', ∃ y ∈ cl, x.scales.map SclD.v = y.scales.map SclD.v := fun x hx => by
    have h1 : x.v ∈ cl.map CrdD.v := by rw [← hc]; exact List.mem_map_of_mem hx
    obtain ⟨y, hy, e⟩ := List.mem_map.1 h1
    exact ⟨y, hy, (congrArg Crd.scales e).symm⟩
  refine ⟨?_, ?_, fun x hx => ?_, fun x hx s hs => ?_, fun x hx => ?_⟩
  · have := h.cards; simp only at this ⊢; omega
  · have := h.trees; simp only at this ⊢; omega
  · obtain ⟨y, hy, e⟩ := hcm x hx
    have h2 : x.scales.length = y.scales.length := by simpa using congrArg List.length e
    rw [h2]
    exact h.scales y hy
  · obtain ⟨y, hy, e⟩ := hcm x hx
    have h2 : s.v ∈ y.scales.map SclD.v := by rw [← e]; exact List.mem_map_of_mem hs
    obtain ⟨z, hz, e3⟩ := List.mem_map.1 h2
    rw [← e3]
    exact h.scl y hy z hz
  · have h1 : x.v ∈ tl.map TreD.v := by rw [← ht]; exact List.mem_map_of_mem hx
    obtain ⟨y, hy, e⟩ := List.mem_map.1 h1
    rw [← e]
    exact h.nodes y hy
end Go.Proofs.YtkimojiakabbcaaGreat
