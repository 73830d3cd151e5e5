/- What stays in memory that is partly stored into. -/
import Derived.Test.YtpahcbhikmfamaaGreatRExSP1
import Derived.Test.YtpahcbhikmfamaaGreatSPrg8
import Derived.Laws.AppendOwnNone
import Derived.Test.YtpahcbhikmfamaaGreatWQ2
import Derived.Deep.RegionLawGrows
import Derived.Deep.AppendSrc

namespace Go.Proofs.YtpahcbhikmfamaaGreat
open Go.RowKit Go.Maps

/-- All blocks with P stay. -/
structure Fr (P : Nat → Prop) (w w' : World) : Prop where
  size : w.heap.size ≤ w'.heap.size
  blk : ∀ b, b < w.heap.size → P b → w'.heap[b]? = w.heap[b]?
section
variable {P Q : Nat → Prop} {w w' w'' : World}
theorem Fr.refl (P : Nat → Prop) (w : World) : Fr P w w := ⟨Nat.le_refl _, fun _ _ _ => rfl⟩
theorem Fr.trans (h : Fr P w w') (h' : Fr P w' w'') : Fr P w w'' := ⟨Nat.le_trans h.size h'.size, fun b hb hp => (h'.blk b (Nat.lt_of_lt_of_le hb h.size) hp).trans (h.blk b hb hp)⟩
theorem Fr.below (h : Below w.heap.size w w') : Fr P w w' := ⟨h.size, fun b hb _ => h.block b hb⟩
theorem Fr.set {p : Addr} (hp : ¬ P p.block) (v : Value) : Fr P w (w.setCell p v) := ⟨by simp, fun b _ hb => Below.heap_setCell _ _ _ _ (fun e => hp (e ▸ hb))⟩
theorem Fr.grown {row : Option Nat} (h : w.grownBy w' row) (hr : ∀ b, P b → some b ≠ row) : Fr P w w' := ⟨h.size, fun b hb hp => h.block b hb (hr b hp)⟩
theorem Fr.imp (h : Fr P w w') (hq : ∀ b, Q b → P b) : Fr Q w w' := ⟨h.size, fun b hb hp => h.blk b hb (hq b hp)⟩
theorem Fr.cell (h : Fr P w w') {b o : Nat} (hb : b < w.heap.size) (hp : P b) : w'.cell? ⟨b, o, none⟩ = w.cell? ⟨b, o, none⟩ := World.cell?_of_block (h.blk b hb hp)
end
def FlatP {α : Type} (n : Nat) (f : α → List Value) (w : World) (P : Nat → Prop) (A : Option Addr) (l : List α) : Prop :=
  ∀ k, (h : k < l.length) → ∃ b off, A = some ⟨b, off, none⟩ ∧ b < w.heap.size ∧ P b ∧ ∀ i, i < n → w.cell? ⟨b, off + k * n + i, none⟩ = (f l[k])[i]?
section
variable {α : Type} {n : Nat} {f : α → List Value} {w w' : World} {P Q : Nat → Prop} {A : Option Addr} {l : List α}
theorem FlatP.flat (h : FlatP n f w P A l) : Flat n f w w.heap.size A l := fun k hk => by
  obtain ⟨b, off, e, h2, _, h4⟩ := h k hk
  exact ⟨b, off, e, h2, h4⟩
theorem FlatP.move (h : FlatP n f w P A l) (hf : Fr P w w') : FlatP n f w' P A l := fun k hk => by
  obtain ⟨b, off, e, h1, h2, h3⟩ := h k hk
  exact ⟨b, off, e, Nat.lt_of_lt_of_le h1 hf.size, h2, fun i hi => (hf.cell h1 h2).trans (h3 i hi)⟩
theorem FlatP.imp (h : FlatP n f w P A l) (hq : ∀ b, b < w.heap.size → P b → Q b) : FlatP n f w Q A l := fun k hk => by
  obtain ⟨b, off, e, h1, h2, h3⟩ := h k hk
  exact ⟨b, off, e, h1, hq b h1 h2, h3⟩
theorem FlatP.of_flat {B : Nat} (h : Flat n f w B A l) (hB : B ≤ w.heap.size) (hP : ∀ b, b < B → P b) : FlatP n f w P A l := fun k hk => by
  obtain ⟨b, off, e, h1, h3⟩ := h k hk
  exact ⟨b, off, e, Nat.lt_of_lt_of_le h1 hB, hP b h1, h3⟩
theorem FlatP.of_own (hn : ∀ x, (f x).length = n) (h0 : 0 < n) {base : Nat} {c : Nat} {t : TypeId} (h : w.ownsRow base t n (.slice A l.length c) l.length (l.flatMap f)) (hP : ∀ b, base ≤ b → b < w.heap.size → (Value.slice A l.length c).ownBlock = some b → P b) : FlatP n f w P A l := fun k hk => by
  obtain ⟨b, off, e, h2, h4⟩ := Flat.of_own hn h0 h k hk
  subst e
  have h5 := h.lt b rfl
  exact ⟨b, off, rfl, h2, hP b h5.1 h2 rfl, h4⟩
theorem FlatP.news (hn : ∀ x, (f x).length = n) (h0 : 0 < n) (h : FlatP n f w P A l) : ∀ ad, A = some ad → ∀ j u, (l.flatMap f)[j]? = some u → w.cell? (ad.add j) = some u := Flat.news hn h0 h.flat
theorem FlatP.none_ (h : FlatP n f w P none l) : l.length = 0 := Flat.none_ h.flat
end
structure SclP (w : World) (P : Nat → Prop) (x : SclD) : Prop where
  cuts : FlatP 1 intC w P x.A x.v.cuts
  pts : FlatP 1 intC w P x.B x.v.pts
structure SclsP (w : World) (P : Nat → Prop) (A : Option Addr) (l : List SclD) : Prop where
  row : FlatP 3 sclC w P A l
  each : ∀ x ∈ l, SclP w P x
section
variable {w w' : World} {P Q : Nat → Prop}
theorem SclP.move {x : SclD} (h : SclP w P x) (hf : Fr P w w') : SclP w' P x := ⟨h.cuts.move hf, h.pts.move hf⟩
theorem SclP.imp {x : SclD} (h : SclP w P x) (hq : ∀ b, b < w.heap.size → P b → Q b) : SclP w Q x := ⟨h.cuts.imp hq, h.pts.imp hq⟩
theorem SclsP.move {A : Option Addr} {l : List SclD} (h : SclsP w P A l) (hf : Fr P w w') : SclsP w' P A l := ⟨h.row.move hf, fun x hx => (h.each x hx).move hf⟩
theorem SclsP.imp {A : Option Addr} {l : List SclD} (h : SclsP w P A l) (hq : ∀ b, b < w.heap.size → P b → Q b) : SclsP w Q A l := ⟨h.row.imp hq, fun x hx => (h.each x hx).imp hq⟩
theorem SclsP.at_ {A : Option Addr} {l : List SclD} (h : SclsP w P A l) : SclsAt w w.heap.size A l := ⟨h.row.flat, fun x hx => ⟨(h.each x hx).cuts.flat, (h.each x hx).pts.flat⟩⟩
theorem SclsP.of_at {B : Nat} {A : Option Addr} {l : List SclD} (h : SclsAt w B A l) (hB : B ≤ w.heap.size) (hP : ∀ b, b < B → P b) : SclsP w P A l := ⟨.of_flat h.row hB hP, fun x hx => ⟨.of_flat (h.each x hx).cuts hB hP, .of_flat (h.each x hx).pts hB hP⟩⟩
end
/-- An element of an owned row, turned. -/
theorem flat_set {α : Type} {f : α → List Value} {n : Nat} (hn : ∀ x, (f x).length = n) : ∀ (l : List α) (k : Nat) (h : k < l.length) (y : α) (j : Nat) (u : Value), j < n → f y = (f l[k]).set j u → (l.set k y).flatMap f = (l.flatMap f).set (k * n + j) u
  | x :: l, 0, _, y, j, u, hj, e => by
    show f y ++ l.flatMap f = (f x ++ l.flatMap f).set (0 * n + j) u
    rw [Nat.zero_mul, Nat.zero_add, List.set_append_left _ _ (by rw [hn]; exact hj)]
    congr 1
  | x :: l, k + 1, h, y, j, u, hj, e => by
    have h1 := flat_set hn l k (by simpa using h) y j u hj e
    have e2 : (k + 1) * n + j = (f x).length + (k * n + j) := by rw [hn, Nat.succ_mul]; omega
    show f x ++ (l.set k y).flatMap f = (f x ++ l.flatMap f).set ((k + 1) * n + j) u
    rw [h1, e2, List.set_append_right _ _ (by omega), Nat.add_sub_cancel_left]
end Go.Proofs.YtpahcbhikmfamaaGreat

namespace Go.Proofs.YtpahcbhikmfamaaGreat
open Go.RowKit Go.Maps

theorem cardInfo : (Tryz.prog.info? 37).map (fun i => (i.zero, i.size, i.bytes)) = some (some (.agg #[.int .i64 0, .int .i64 0, .slice none 0 0]), 3, 40) := by kernel_rfl
theorem treeInfo : (Tryz.prog.info? 45).map (fun i => (i.zero, i.size, i.bytes)) = some (some (.agg #[.int .i64 0, .slice none 0 0]), 2, 32) := by kernel_rfl
theorem scaleInfo : (Tryz.prog.info? 42).map (fun i => (i.zero, i.size, i.bytes)) = some (some (.agg #[.slice none 0 0, .slice none 0 0, .int .i64 0]), 3, 56) := by kernel_rfl
theorem nodeInfo : (Tryz.prog.info? 48).map (fun i => (i.zero, i.size, i.bytes)) = some (some (.agg #[.int .i64 0, .int .i64 0, .int .i64 0, .int .i64 0, .int .i64 0]), 5, 40) := by kernel_rfl
section
variable {P : Program} (w : World)
/-- Nothing is appended to a row of the call's own. -/
theorem run_append_nothing (base : Nat) (t ty e : TypeId) (i : TypeInfo) (size : Nat) (ht : P.underlying t = some (.slice e)) (hi : P.info? e = some i)
    (v : Value) (n : Nat) (xs : List Value) (hown : w.ownsRow base e size v n xs) (c : Nat) : (Builtin.append_ #[t, t] ty #[v, .slice none 0 c]).run P w = .ok v w := by
  rcases hown.2 with ⟨rfl, rfl⟩ | ⟨g, cap, cur, rfl, _, _, hnc, _⟩
  · simp [Builtin.append_, run_underlying ht, sizeOf, typeInfo, hi, Builtin.lenOf, Builtin.firstCells]
  · simp [Builtin.append_, run_underlying ht, sizeOf, typeInfo, hi, Builtin.lenOf, Builtin.firstCells, hnc, storeCells]

/-- 'append(out, src...)', out the call's own, src whatever: nil, empty or not. -/
theorem wpList_append_src {ops : Array Oper} {rest : List Oper} {o : Oper} {a : Act} {Q : Exit → Act → World → Prop} (hgd : o.guard = none) (s x : Operand) (t : TypeId)
    (ho : o.op = .call { callee := .builtin .append, args := #[s, x], argTypes := #[t, t] })
    (base : Nat) (e : TypeId) (i : TypeInfo) (z : Value) (size bytes : Nat) (ht : P.underlying t = some (.slice e)) (hi : P.info? e = some i) (hz : i.zero = some z)
    (hsize : i.size = size) (hby : i.bytes = bytes) (hzs : z.cells.size = size) (hsz : 0 < size)
    (v : Value) (n : Nat) (xs : List Value) (hs : a.eval s = v) (hown : w.ownsRow base e size v n xs)
    (A : Option Addr) (m c : Nat) (news : List Value) (hx : a.eval x = .slice A m c) (hl : news.length = m * size) (hA : A = none → m = 0) (hnews : ∀ ad, A = some ad → ∀ j u, news[j]? = some u → w.cell? (ad.add j) = some u)
    (h1 : ∀ u ∈ news, u.oneCell' = true) (h63 : n + m ≤ maxLen) (hbytes : (n + m) * bytes ≤ 140737488355328) (hbase : base ≤ w.heap.size)
    (h : ∀ v' w', w'.ownsRow base e size v' (n + m) (xs ++ news) → w.grownBy w' v.ownBlock → (v'.ownBlock = v.ownBlock ∨ v'.ownBlock = some w.heap.size) → wpList P ops Q rest (a.put o.dst v') w') : wpList P ops Q (o :: rest) a w := by
  cases A with
  | some ad => exact wpList_append_own_at w hgd s x t ho base e i z size bytes ht hi hz hsize hby hzs hsz v n xs hs hown ad m c news hx hl (hnews ad rfl) h1 h63 hbytes hbase fun v' w' h2 h3 _ h5 => h v' w' h2 h3 h5
  | none =>
    obtain rfl := hA rfl
    have hn : news = [] := List.eq_nil_of_length_eq_zero (by simpa using hl)
    subst hn
    refine wpList_plain hgd fun K hK => ?_
    have hrun := run_append_nothing (P := P) w base t o.type e i size ht hi v n xs hown c
    unfold Oper.wp execOp
    simp only [ho, resolve, invoke, builtin, Sem.run_bind, Sem.run_pure, Result.andThen_ok, List.map_toArray, List.map_cons, List.map_nil, hs, hx, hrun]
    exact hK _ _ (h v w (by simpa using hown) (World.grownBy.refl w _) (.inl rfl))
end
/-- 'append(out, src...)' at a step of a region that draws. -/
theorem step_append_src {P : Program} {w : World} {ops : Array Oper} {o : Oper} {a : Act} {K : Act → World → Prop} {Q : Exit → Act → World → Prop} {E : Prop} (hgd : o.guard = none) (s x : Operand) (t : TypeId)
    (ho : o.op = .call { callee := .builtin .append, args := #[s, x], argTypes := #[t, t] })
    (base : Nat) (e : TypeId) (i : TypeInfo) (z : Value) (size bytes : Nat) (ht : P.underlying t = some (.slice e)) (hi : P.info? e = some i) (hz : i.zero = some z)
    (hsize : i.size = size) (hby : i.bytes = bytes) (hzs : z.cells.size = size) (hsz : 0 < size)
    (v : Value) (n : Nat) (xs : List Value) (hs : a.eval s = v) (hown : w.ownsRow base e size v n xs)
    (A : Option Addr) (m c : Nat) (news : List Value) (hx : a.eval x = .slice A m c) (hl : news.length = m * size) (hA : A = none → m = 0) (hnews : ∀ ad, A = some ad → ∀ j u, news[j]? = some u → w.cell? (ad.add j) = some u)
    (h1 : ∀ u ∈ news, u.oneCell' = true) (h63 : n + m ≤ maxLen) (hbytes : (n + m) * bytes ≤ 140737488355328) (hbase : base ≤ w.heap.size)
    (h : ∀ v' w', w'.ownsRow base e size v' (n + m) (xs ++ news) → w.grownBy w' v.ownBlock → (v'.ownBlock = v.ownBlock ∨ v'.ownBlock = some w.heap.size) → K (a.put o.dst v') w') :
    if Region.wanted o (yielded ops a.tmps) = true then Oper.wp P o a w K Q else E := by
  have hw : Region.wanted o (yielded ops a.tmps) = true := by simp [Region.wanted, hgd]
  rw [if_pos hw]
  cases A with
  | some ad =>
    obtain ⟨v', w', hr, h2, h3, _, h5⟩ := run_append_own_at (P := P) w base t o.type e i z size bytes ht hi hz hsize hby hzs hsz v n xs hown ad m c news hl (hnews ad rfl) h1 h63 hbytes hbase
    unfold Oper.wp execOp
    simp only [ho, resolve, invoke, builtin, Sem.run_bind, Sem.run_pure, Result.andThen_ok, List.map_toArray, List.map_cons, List.map_nil, hs, hx, hr]
    exact h v' w' h2 h3 h5
  | none =>
    obtain rfl := hA rfl
    have hn : news = [] := List.eq_nil_of_length_eq_zero (by simpa using hl)
    subst hn
    have hrun := run_append_nothing (P := P) w base t o.type e i size ht hi v n xs hown c
    unfold Oper.wp execOp
    simp only [ho, resolve, invoke, builtin, Sem.run_bind, Sem.run_pure, Result.andThen_ok, List.map_toArray, List.map_cons, List.map_nil, hs, hx, hrun]
    exact h v w (by simpa using hown) (World.grownBy.refl w _) (.inl rfl)
theorem own_drew {w : World} {base : Nat} {e : TypeId} {size n : Nat} {v : Value} {xs : List Value} (h : w.ownsRow base e size v n xs) : w.drew.ownsRow base e size v n xs := h
end Go.Proofs.YtpahcbhikmfamaaGreat

namespace Go.Proofs.YtpahcbhikmfamaaGreat
open Go.RowKit Go.Maps

theorem mod4_put {w : World} {g : Nat} {a0 a1 a2 a3 c1 : Value} {t : TypeId} (h : Blk w g #[a0, a1, a2, a3] t) : Blk (w.setCell ⟨g, 1, none⟩ c1) g #[a0, c1, a2, a3] t := by
  have := h.set 1 c1
  simpa using this
/-- Neither the model's block nor the answer's, nor a row's. -/
def Nt (b0 : Nat) (row : Option Nat) (b : Nat) : Prop := (b < b0 ∨ b0 + 1 < b) ∧ some b ≠ row
/-- The cards, of which some are new. -/
structure TB (b0 : Nat) (wr : World) (A1 : Option Addr) (n c1 : Nat) (cl ml : List CrdD) : Prop where
  eq : ml.map CrdD.v = cl.map CrdD.v
  len : ml.length = n
  own : wr.ownsRow (b0 + 1 + 1) 37 3 (.slice A1 n c1) n (ml.flatMap crdC)
  each : ∀ x ∈ ml, SclsP wr (Nt b0 (Value.slice A1 n c1).ownBlock) x.S x.scales

/-- The scales of one card, of which some are new. -/
structure SI (b0 g lo : Nat) (wr : World) (S1 : Option Addr) (n s1 : Nat) (sl sl2 : List SclD) : Prop where
  eq : sl2.map SclD.v = sl.map SclD.v
  len : sl2.length = n
  own : wr.ownsRow lo 42 3 (.slice S1 n s1) n (sl2.flatMap sclC)
  each : ∀ x ∈ sl2, SclP wr (fun b => Nt b0 (some g) b ∧ some b ≠ (Value.slice S1 n s1).ownBlock) x
theorem grown_fresh {B g n c : Nat} {w W w' : World} (hg : W.grownBy w' (Value.slice (some ⟨g, 0, none⟩) n c).ownBlock) (hB : Below B w W) (hb : B ≤ W.heap.size) (hBg : B ≤ g) : Below B w w' := hB.grown hg hb (fun k e => by have e2 : g = k := Option.some.inj e; omega)
theorem blk_fresh {g g' n c : Nat} {W w' : World} {cs : Array Value} {t : TypeId} (hg : W.grownBy w' (Value.slice (some ⟨g, 0, none⟩) n c).ownBlock) (h : Blk W g' cs t) (hne : g' ≠ g) : Blk w' g' cs t := h.grown hg (fun e => hne (Option.some.inj e))
theorem own_blk {W : World} {g base size : Nat} {t : TypeId} (h : Blk W g #[] t) (hb : base ≤ g) : W.ownsRow base t size (.slice (some ⟨g, 0, none⟩) 0 0) 0 [] :=
  ⟨by simp, .inr ⟨g, 0, #[], rfl, hb, h, Nat.le_refl _, by simp [maxLen], by simp, by simp⟩⟩

theorem own_fr {w w' : World} {P : Nat → Prop} {base : Nat} {e : TypeId} {size n : Nat} {v : Value} {xs : List Value} (h : w.ownsRow base e size v n xs) (hF : Fr P w w') (hP : ∀ g, v.ownBlock = some g → P g) : w'.ownsRow base e size v n xs := by
  refine ⟨h.1, ?_⟩
  rcases h.2 with h0 | ⟨g, cap, cur, h1, h2, h3, h4⟩
  · exact .inl h0
  · exact .inr ⟨g, cap, cur, h1, h2, (hF.blk g (Array.getElem?_eq_some_iff.1 h3).1 (hP g (by rw [h1]; rfl))).trans h3, h4⟩
theorem map_set_same {α β : Type} (f : α → β) (l : List α) (i : Nat) (h : i < l.length) (y : α) (hy : f y = f l[i]) : (l.set i y).map f = l.map f := by
  apply List.ext_getElem
  · simp
  · intro q h1 h2
    rw [List.getElem_map, List.getElem_map, List.getElem_set]
    split
    · rename_i e; subst e; exact hy
    · rfl
theorem tb_set {b0 g i n c1 s s1 : Nat} {w0 wc we : World} {cl ml : List CrdD} {wt base : Int} {sl sl2 : List SclD} {S S1 : Option Addr} (HT : TB b0 w0 (some ⟨g, 0, none⟩) n c1 cl ml) (hi : i < ml.length) (hY : ml[i] = ⟨wt, base, sl, S, s⟩)
    (oC : wc.ownsRow (b0 + 1 + 1) 37 3 (.slice (some ⟨g, 0, none⟩) n c1) n ((ml.flatMap crdC).set (i * 3 + 2) (.slice S1 sl.length s1))) (hF : Fr (fun b => b ≠ g) w0 wc) (hFk : Fr (fun b => some b ≠ (Value.slice S1 sl.length s1).ownBlock) wc we)
    (HS : SI b0 g w0.heap.size we S1 sl.length s1 sl sl2) (hb0 : b0 + 1 < w0.heap.size) (hg : g < w0.heap.size) : TB b0 we (some ⟨g, 0, none⟩) n c1 cl (ml.set i ⟨wt, base, sl2, S1, s1⟩) := by
  have hS1 : ∀ b, b < w0.heap.size → some b ≠ (Value.slice S1 sl.length s1).ownBlock := fun b hb e => by have := (HS.own.lt b e.symm).1; omega
  refine ⟨?_, by rw [List.length_set]; exact HT.len, ?_, fun x hx => ?_⟩
  · rw [map_set_same CrdD.v ml i hi _ (by rw [hY]; simp only [CrdD.v]; rw [HS.eq]), HT.eq]
  · have e := flat_set crdC_len ml i hi ⟨wt, base, sl2, S1, s1⟩ 2 (.slice S1 sl.length s1) (by omega) (by rw [hY]; simp only [crdC]; rw [HS.len]; rfl)
    rw [e]
    exact own_fr oC hFk (fun g' e' => by cases e'; exact hS1 g hg)
  · rcases List.mem_or_eq_of_mem_set hx with h1 | h1
    · have h2 := (HT.each x h1).imp (Q := fun b => Nt b0 (some g) b ∧ some b ≠ (Value.slice S1 sl.length s1).ownBlock) (fun b hb hp => ⟨hp, hS1 b hb⟩)
      exact ((h2.move (hF.imp (fun b hp e => hp.1.2 (by rw [e])))).move (hFk.imp (fun b hp => hp.2))).imp (fun b _ hp => hp.1)
    · subst h1
      refine ⟨?_, fun y hy => (HS.each y hy).imp (fun b _ hp => hp.1)⟩
      have h3 := HS.own
      rw [← HS.len] at h3
      exact FlatP.of_own sclC_len (by decide) h3 (fun b hb1 _ _ => ⟨.inr (by omega), fun e' => by have e2 : b = g := Option.some.inj e'; omega⟩)
/-- What is appended to one row stays when another row is appended to. -/
theorem own_over {lo f9 n size : Nat} {w8 W2 w9 : World} {e : TypeId} {v : Value} {xs : List Value} {row : Option Nat} (h8 : w8.ownsRow lo e size v n xs) (hB : Below w8.heap.size w8 W2) (hg : W2.grownBy w9 row) (hr : row = some f9) (hne : ∀ b, v.ownBlock = some b → b ≠ f9) : w9.ownsRow lo e size v n xs := by
  subst hr
  have h2 := own_below h8 hB
  refine ⟨h2.1, ?_⟩
  rcases h2.2 with h0 | ⟨g, cap, cur, h1, h3, h4, h5⟩
  · exact .inl h0
  · exact .inr ⟨g, cap, cur, h1, h3, (hg.block g (Array.getElem?_eq_some_iff.1 h4).1 (fun e' => hne g (by rw [h1]; rfl) (Option.some.inj e'))).trans h4, h5⟩
/-- Its block is the fresh one, or newer than all. -/
theorem fresh_ne {v : Value} {f8 f9 s : Nat} {r : Option Nat} (ho : v.ownBlock = r ∨ v.ownBlock = some s) (hr : r = some f8) (h1 : f8 ≠ f9) (h2 : s ≠ f9) : ∀ b, v.ownBlock = some b → b ≠ f9 := by
  subst hr
  intro b hb
  rcases ho with e | e <;> (rw [hb] at e; have := Option.some.inj e; omega)
/-- A scale in new memory. -/
theorem si_put {b0 g lo k n s1 gs q8 q9 a b : Nat} {w0 w9 : World} {sl sl2 : List SclD} {v : Scl} {A B A8 A9 : Option Addr} (HS : SI b0 g lo w0 (some ⟨gs, 0, none⟩) n s1 sl sl2) (hk : k < sl2.length) (hz : sl2[k] = ⟨v, A, a, B, b⟩) (hgs : gs < w0.heap.size) (_hlo : lo ≤ gs) (h0 : b0 + 1 < w0.heap.size) (hg0 : g < w0.heap.size)
    (hb9 : Below w0.heap.size w0 w9) (h8 : w9.ownsRow w0.heap.size 3 1 (.slice A8 v.cuts.length q8) v.cuts.length (v.cuts.flatMap intC)) (h9 : w9.ownsRow w0.heap.size 3 1 (.slice A9 v.pts.length q9) v.pts.length (v.pts.flatMap intC)) :
    SI b0 g lo ((w9.setCell ⟨gs, k * 3, none⟩ (.slice A8 v.cuts.length q8)).setCell ⟨gs, k * 3 + 1, none⟩ (.slice A9 v.pts.length q9)) (some ⟨gs, 0, none⟩) n s1 sl (sl2.set k ⟨v, A8, q8, A9, q9⟩) := by
  have hF : Fr (fun b => b ≠ gs) w9 ((w9.setCell ⟨gs, k * 3, none⟩ (.slice A8 v.cuts.length q8)).setCell ⟨gs, k * 3 + 1, none⟩ (.slice A9 v.pts.length q9)) := (Fr.set (p := ⟨gs, k * 3, none⟩) (fun e => e rfl) _).trans (Fr.set (p := ⟨gs, k * 3 + 1, none⟩) (fun e => e rfl) _)
  refine ⟨?_, by rw [List.length_set]; exact HS.len, ?_, fun x hx => ?_⟩
  · rw [map_set_same SclD.v sl2 k hk _ (by rw [hz]), HS.eq]
  · have e1 := flat_set sclC_len sl2 k hk ⟨v, A8, q8, B, b⟩ 0 (.slice A8 v.cuts.length q8) (by omega) (by rw [hz]; rfl)
    have e2 := flat_set sclC_len (sl2.set k ⟨v, A8, q8, B, b⟩) k (by rw [List.length_set]; exact hk) ⟨v, A8, q8, A9, q9⟩ 1 (.slice A9 v.pts.length q9) (by omega) (by rw [List.getElem_set_self]; rfl)
    rw [List.set_set] at e2
    rw [e2, e1, Nat.add_zero]
    exact (((own_below HS.own hb9).stored (k * 3) (.slice A8 v.cuts.length q8)).1.stored (k * 3 + 1) (.slice A9 v.pts.length q9)).1
  · have hP : ∀ b, w0.heap.size ≤ b → Nt b0 (some g) b ∧ some b ≠ (Value.slice (some ⟨gs, 0, none⟩) n s1).ownBlock := fun b hb => ⟨⟨.inr (by omega), fun e => by have := Option.some.inj e; omega⟩, fun e => by have e2 : b = gs := Option.some.inj e; omega⟩
    rcases List.mem_or_eq_of_mem_set hx with h1 | h1
    · exact ((HS.each x h1).move (Fr.below hb9)).move (hF.imp (fun b hp e => hp.2 (by rw [e]; rfl)))
    · subst h1
      refine ⟨(FlatP.of_own intC_len (by decide) h8 (fun b hb _ _ => hP b hb)).move (hF.imp (fun b hp e => hp.2 (by rw [e]; rfl))), (FlatP.of_own intC_len (by decide) h9 (fun b hb _ _ => hP b hb)).move (hF.imp (fun b hp e => hp.2 (by rw [e]; rfl)))⟩
end Go.Proofs.YtpahcbhikmfamaaGreat

namespace Go.Proofs.YtpahcbhikmfamaaGreat
open Go.RowKit Go.Maps

theorem Fr.of_below {P : Nat → Prop} {B : Nat} {w w' : World} (h : Below B w w') (hP : ∀ b, P b → b < B) : Fr P w w' := ⟨h.size, fun b _ hp => h.block b (hP b hp)⟩
/-- Cards in blocks with P. -/
structure CP (w : World) (P : Nat → Prop) (A : Option Addr) (l : List CrdD) : Prop where
  row : FlatP 3 crdC w P A l
  each : ∀ x ∈ l, SclsP w P x.S x.scales
section
variable {w w' : World} {P Q : Nat → Prop} {A : Option Addr} {l : List CrdD}
theorem CP.move (h : CP w P A l) (hf : Fr P w w') : CP w' P A l := ⟨h.row.move hf, fun x hx => (h.each x hx).move hf⟩
theorem CP.imp (h : CP w P A l) (hq : ∀ b, b < w.heap.size → P b → Q b) : CP w Q A l := ⟨h.row.imp hq, fun x hx => (h.each x hx).imp hq⟩
theorem CP.at_ (h : CP w P A l) : CrdsAt w w.heap.size A l := ⟨h.row.flat, fun x hx => (h.each x hx).at_⟩
end
theorem TB.cp {b0 n c1 : Nat} {w : World} {A1 : Option Addr} {cl ml : List CrdD} (h : TB b0 w A1 n c1 cl ml) : CP w (fun b => b < b0 ∨ b0 + 1 < b) A1 ml := by
  have h1 := h.own
  rw [← h.len] at h1
  exact ⟨FlatP.of_own crdC_len (by decide) h1 (fun b hb _ _ => .inr (by omega)), fun x hx => (h.each x hx).imp (fun b _ hp => hp.1)⟩
/-- The trees, of which some are new. -/
structure TTB (b0 lo : Nat) (wr : World) (T1 : Option Addr) (n t1 : Nat) (tl ml : List TreD) : Prop where
  eq : ml.map TreD.v = tl.map TreD.v
  len : ml.length = n
  own : wr.ownsRow lo 45 2 (.slice T1 n t1) n (ml.flatMap treC)
  each : ∀ x ∈ ml, FlatP 5 nodC wr (Nt b0 (Value.slice T1 n t1).ownBlock) x.T x.v.nodes
theorem tt_put {b0 lo i n t1 g s1 t0 : Nat} {wr w8 : World} {tl ml : List TreD} {v : Tre} {T0 S1 : Option Addr} (HT : TTB b0 lo wr (some ⟨g, 0, none⟩) n t1 tl ml) (hi : i < ml.length) (hz : ml[i] = ⟨v, T0, t0⟩) (hg : g < wr.heap.size) (h0 : b0 + 1 < wr.heap.size)
    (hb8 : Below wr.heap.size wr w8) (h8 : w8.ownsRow wr.heap.size 48 5 (.slice S1 v.nodes.length s1) v.nodes.length (v.nodes.flatMap nodC)) :
    TTB b0 lo (w8.setCell ⟨g, i * 2 + 1, none⟩ (.slice S1 v.nodes.length s1)) (some ⟨g, 0, none⟩) n t1 tl (ml.set i ⟨v, S1, s1⟩) := by
  have hF : Fr (fun b => b ≠ g) w8 (w8.setCell ⟨g, i * 2 + 1, none⟩ (.slice S1 v.nodes.length s1)) := Fr.set (p := ⟨g, i * 2 + 1, none⟩) (fun e => e rfl) _
  refine ⟨?_, by rw [List.length_set]; exact HT.len, ?_, fun x hx => ?_⟩
  · rw [map_set_same TreD.v ml i hi _ (by rw [hz]), HT.eq]
  · have e1 := flat_set treC_len ml i hi ⟨v, S1, s1⟩ 1 (.slice S1 v.nodes.length s1) (by omega) (by rw [hz]; rfl)
    rw [e1]
    exact ((own_below HT.own hb8).stored (i * 2 + 1) (.slice S1 v.nodes.length s1)).1
  · rcases List.mem_or_eq_of_mem_set hx with h1 | h1
    · exact ((HT.each x h1).move (Fr.below hb8)).move (hF.imp (fun b hp e => hp.2 (by rw [e]; rfl)))
    · subst h1
      exact (FlatP.of_own nodC_len (by decide) h8 (fun b hb _ _ => (⟨.inr (by omega), fun e => by have e2 : b = g := Option.some.inj e; omega⟩ : Nt b0 (some g) b))).move (hF.imp (fun b hp e => hp.2 (by rw [e])))
theorem TTB.at_ {b0 lo n t1 : Nat} {wr : World} {T1 : Option Addr} {tl ml : List TreD} (h : TTB b0 lo wr T1 n t1 tl ml) : TresAt wr wr.heap.size T1 ml := by
  have h1 := h.own
  rw [← h.len] at h1
  exact ⟨Flat.of_own treC_len (by decide) h1, fun x hx => (h.each x hx).flat⟩
/-- What the twin of a model is. -/
def TwinS (w : World) (traits need : Int) (cl : List CrdD) (tl : List TreD) (e : Ending) (w' : World) : Prop :=
  ∃ cl' tl' C' c' T' t', e = .returned (.agg #[.int .i64 traits, .slice C' (List.length cl') c', .slice T' (List.length tl') t', .int .i64 need]) ∧ cl'.map CrdD.v = cl.map CrdD.v ∧ tl'.map TreD.v = tl.map TreD.v ∧ MdlAt w' w'.heap.size ⟨traits, cl', C', c', tl', T', t', need⟩ ∧ Below w.heap.size w w'
/-- As large as the other one. -/
theorem MdlLe.twin {traits traits' need need' : Int} {cl cl' : List CrdD} {tl tl' : List TreD} {C C' T T' : Option Addr} {c c' t t' : Nat} (h : MdlLe ⟨traits, cl, C, c, tl, T, t, need⟩) (hc : cl'.map CrdD.v = cl.map CrdD.v) (ht : tl'.map TreD.v = tl.map TreD.v) : MdlLe ⟨traits', cl', C', c', tl', T', t', need'⟩ := by
  have e1 : cl'.length = cl.length := by simpa using congrArg List.length hc
  have e2 : tl'.length = tl.length := by simpa using congrArg List.length ht
  have hcm : ∀ x ∈ cl', ∃ y ∈ cl, x.scales.map SclD.v = y.scales.map SclD.v := fun x hx => by
    have h1 : x.v ∈ cl.map CrdD.v := by rw [← hc]; exact List.mem_map_of_mem hx
    obtain ⟨y, hy, e⟩ := List.mem_map.1 h1
    exact ⟨y, hy, (congrArg Crd.scales e).symm⟩
  refine ⟨?_, ?_, fun x hx => ?_, fun x hx s hs => ?_, fun x hx => ?_⟩
  · have := h.cards; simp only at this ⊢; omega
  · have := h.trees; simp only at this ⊢; omega
  · obtain ⟨y, hy, e⟩ := hcm x hx
    have h2 : x.scales.length = y.scales.length := by simpa using congrArg List.length e
    rw [h2]
    exact h.scales y hy
  · obtain ⟨y, hy, e⟩ := hcm x hx
    have h2 : s.v ∈ y.scales.map SclD.v := by rw [← e]; exact List.mem_map_of_mem hs
    obtain ⟨z, hz, e3⟩ := List.mem_map.1 h2
    rw [← e3]
    exact h.scl y hy z hz
  · have h1 : x.v ∈ tl.map TreD.v := by rw [← ht]; exact List.mem_map_of_mem hx
    obtain ⟨y, hy, e⟩ := List.mem_map.1 h1
    rw [← e]
    exact h.nodes y hy
end Go.Proofs.YtpahcbhikmfamaaGreat

namespace Go.Proofs.YtpahcbhikmfamaaGreat
open Go.RowKit Go.Maps

/-- A row of the call's own, in a block from lo to below hi. -/
structure OwnIn (w : World) (lo hi : Nat) (e : TypeId) (size : Nat) (v : Value) (n : Nat) (xs : List Value) : Prop where
  own : w.ownsRow lo e size v n xs
  lt : ∀ b, v.ownBlock = some b → b < hi
section
variable {w w' : World} {lo hi lo' hi' size n : Nat} {e : TypeId} {v : Value} {xs : List Value}
theorem own_lower (h : w.ownsRow lo e size v n xs) (h1 : lo' ≤ lo) : w.ownsRow lo' e size v n xs := ⟨h.1, h.2.imp id fun ⟨g, cap, cur, h2, h3, h4⟩ => ⟨g, cap, cur, h2, Nat.le_trans h1 h3, h4⟩⟩
theorem OwnIn.fr {P : Nat → Prop} (h : OwnIn w lo hi e size v n xs) (hF : Fr P w w') (hP : ∀ b, lo ≤ b → b < hi → P b) : OwnIn w' lo hi e size v n xs := ⟨own_fr h.own hF fun g e => hP g (h.own.lt g e).1 (h.lt g e), h.lt⟩
theorem OwnIn.mono (h : OwnIn w lo hi e size v n xs) (h1 : lo' ≤ lo) (h2 : hi ≤ hi') : OwnIn w lo' hi' e size v n xs := ⟨own_lower h.own h1, fun b hb => Nat.lt_of_lt_of_le (h.lt b hb) h2⟩
theorem OwnIn.of (h : w.ownsRow lo e size v n xs) : OwnIn w lo w.heap.size e size v n xs := ⟨h, fun b hb => (h.lt b hb).2⟩
end

/-- The elements lie one behind the other, from lo to hi. -/
def Chain {α : Type} (Q : Nat → Nat → α → Prop) : Nat → Nat → List α → Prop
  | lo, hi, [] => lo ≤ hi
  | lo, hi, x :: l => ∃ a m, lo ≤ a ∧ a ≤ m ∧ Q a m x ∧ Chain Q m hi l
section
variable {α : Type} {Q Q' : Nat → Nat → α → Prop}
theorem Chain.le : ∀ {l : List α} {lo hi : Nat}, Chain Q lo hi l → lo ≤ hi
  | [], _, _, h => h
  | _ :: _, _, _, ⟨_, _, h1, h2, _, h4⟩ => Nat.le_trans h1 (Nat.le_trans h2 h4.le)
theorem Chain.imp : ∀ {l : List α} {lo hi : Nat}, Chain Q lo hi l → (∀ a b x, x ∈ l → lo ≤ a → b ≤ hi → Q a b x → Q' a b x) → Chain Q' lo hi l
  | [], _, _, h, _ => h
  | _ :: _, _, _, ⟨a, m, h1, h2, h3, h4⟩, hq => ⟨a, m, h1, h2, hq _ _ _ (by simp) h1 h4.le h3, h4.imp fun a' b y hy ha hb => hq a' b y (by simp [hy]) (Nat.le_trans h1 (Nat.le_trans h2 ha)) hb⟩
theorem Chain.lower : ∀ {l : List α} {lo lo' hi : Nat}, Chain Q lo hi l → lo' ≤ lo → Chain Q lo' hi l
  | [], _, _, _, h, h1 => Nat.le_trans h1 h
  | _ :: _, _, _, _, ⟨a, m, h1, h2⟩, h4 => ⟨a, m, Nat.le_trans h4 h1, h2⟩
theorem Chain.upper : ∀ {l : List α} {lo hi hi' : Nat}, Chain Q lo hi l → hi ≤ hi' → Chain Q lo hi' l
  | [], _, _, _, h, h1 => Nat.le_trans h h1
  | _ :: _, _, _, _, ⟨a, m, h1, h2, h3, h4⟩, h5 => ⟨a, m, h1, h2, h3, h4.upper h5⟩
theorem Chain.app : ∀ {l l' : List α} {lo m hi : Nat}, Chain Q lo m l → Chain Q m hi l' → Chain Q lo hi (l ++ l')
  | [], _, _, _, _, h, h' => h'.lower h
  | _ :: _, _, _, _, _, ⟨a, m, h1, h2, h3, h4⟩, h' => ⟨a, m, h1, h2, h3, h4.app h'⟩
theorem Chain.one {lo a m hi : Nat} {x : α} (h1 : lo ≤ a) (h2 : a ≤ m) (h3 : m ≤ hi) (h : Q a m x) : Chain Q lo hi [x] := ⟨a, m, h1, h2, h, h3⟩
/-- One element more. -/
theorem Chain.snoc {l : List α} {k lo m hi : Nat} {y : α} (hk : k < l.length) (h : Chain Q lo m (l.take k)) (hm : m ≤ hi) (hy : Q m hi y) : Chain Q lo hi ((l.set k y).take (k + 1)) := by
  have e : (l.set k y).take (k + 1) = l.take k ++ [y] := by
    rw [List.take_add_one, List.take_set_of_le (Nat.le_refl k), List.getElem?_set_self hk]
    rfl
  rw [e]
  exact h.app (Chain.one (Nat.le_refl _) hm (Nat.le_refl _) hy)
/-- One element, and another one in its place. -/
theorem Chain.put : ∀ {l : List α} {k lo hi : Nat}, Chain Q lo hi l → (hk : k < l.length) → ∃ a b, lo ≤ a ∧ a ≤ b ∧ b ≤ hi ∧ Q a b l[k] ∧ ∀ (Q' : Nat → Nat → α → Prop) (y : α), Q' a b y → (∀ a' b' x, (b' ≤ a ∨ b ≤ a') → lo ≤ a' → b' ≤ hi → Q a' b' x → Q' a' b' x) → Chain Q' lo hi (l.set k y)
  | [], _, _, _, _, hk => by simp at hk
  | x :: l, 0, lo, hi, ⟨a, m, h1, h2, h3, h4⟩, _ => ⟨a, m, h1, h2, h4.le, h3, fun _ _ hy hq => ⟨a, m, h1, h2, hy, h4.imp fun a' b' z _ ha hb hz => hq a' b' z (.inr ha) (Nat.le_trans h1 (Nat.le_trans h2 ha)) hb hz⟩⟩
  | x :: l, k + 1, lo, hi, ⟨a, m, h1, h2, h3, h4⟩, hk => by
    obtain ⟨a', b', g1, g2, g3, g4, g5⟩ := h4.put (k := k) (by simpa using hk)
    refine ⟨a', b', by omega, g2, g3, g4, fun Q' y hy hq => ⟨a, m, h1, h2, hq _ _ _ (.inl g1) h1 h4.le h3, g5 Q' y hy fun c d z hz hc hd => hq c d z hz (by omega) hd⟩⟩
theorem Chain.get {l : List α} {k lo hi : Nat} (h : Chain Q lo hi l) (hk : k < l.length) : ∃ a b, lo ≤ a ∧ a ≤ b ∧ b ≤ hi ∧ Q a b l[k] := by
  obtain ⟨a, b, h1, h2, h3, h4, _⟩ := h.put hk
  exact ⟨a, b, h1, h2, h3, h4⟩
theorem Chain.mem {l : List α} {lo hi : Nat} (h : Chain Q lo hi l) {x : α} (hx : x ∈ l) : ∃ a b, lo ≤ a ∧ a ≤ b ∧ b ≤ hi ∧ Q a b x := by
  obtain ⟨k, hk, rfl⟩ := List.mem_iff_getElem.1 hx
  exact h.get hk
end

/-! Scales, cards, trees, a model. -/
structure SclN (w : World) (lo hi : Nat) (x : SclD) : Prop where
  cuts : FlatP 1 intC w (fun b => lo ≤ b ∧ b < hi ∧ (Value.slice x.B x.v.pts.length x.b).ownBlock ≠ some b) x.A x.v.cuts
  pts : OwnIn w lo hi 3 1 (.slice x.B x.v.pts.length x.b) x.v.pts.length (x.v.pts.flatMap intC)
def CrdN (w : World) (lo hi : Nat) (x : CrdD) : Prop :=
  ∃ m, lo ≤ m ∧ OwnIn w lo m 42 3 (.slice x.S x.scales.length x.s) x.scales.length (x.scales.flatMap sclC) ∧ Chain (SclN w) m hi x.scales
def TreN (w : World) (lo hi : Nat) (x : TreD) : Prop := OwnIn w lo hi 48 5 (.slice x.T x.v.nodes.length x.t) x.v.nodes.length (x.v.nodes.flatMap nodC)
structure MdlN (w : World) (lo p q r hi : Nat) (m : MdlD) : Prop where
  cards : OwnIn w lo p 37 3 (.slice m.C m.cards.length m.c) m.cards.length (m.cards.flatMap crdC)
  eachC : Chain (CrdN w) p q m.cards
  trees : OwnIn w q r 45 2 (.slice m.T m.trees.length m.t) m.trees.length (m.trees.flatMap treC)
  eachT : Chain (TreN w) r hi m.trees
  lop : lo ≤ p
  qr : q ≤ r
section
variable {w w' : World} {P : Nat → Prop} {lo hi : Nat}
theorem SclN.fr {x : SclD} (h : SclN w lo hi x) (hF : Fr P w w') (hP : ∀ b, lo ≤ b → b < hi → P b) : SclN w' lo hi x := ⟨h.cuts.move (hF.imp fun b hb => hP b hb.1 hb.2.1), h.pts.fr hF hP⟩
theorem scls_fr {l : List SclD} (h : Chain (SclN w) lo hi l) (hF : Fr P w w') (hP : ∀ b, lo ≤ b → b < hi → P b) : Chain (SclN w') lo hi l := h.imp fun a b x _ ha hb hx => hx.fr hF fun c h1 h2 => hP c (by omega) (by omega)
theorem CrdN.fr {x : CrdD} (h : CrdN w lo hi x) (hF : Fr P w w') (hP : ∀ b, lo ≤ b → b < hi → P b) : CrdN w' lo hi x := by
  obtain ⟨m, h1, h2, h3⟩ := h
  exact ⟨m, h1, h2.fr hF (fun b hb hm => hP b hb (by have := h3.le; omega)), scls_fr h3 hF fun b hb hm => hP b (by omega) hm⟩
theorem crds_fr {l : List CrdD} (h : Chain (CrdN w) lo hi l) (hF : Fr P w w') (hP : ∀ b, lo ≤ b → b < hi → P b) : Chain (CrdN w') lo hi l := h.imp fun a b x _ ha hb hx => hx.fr hF fun c h1 h2 => hP c (by omega) (by omega)
theorem TreN.fr {x : TreD} (h : TreN w lo hi x) (hF : Fr P w w') (hP : ∀ b, lo ≤ b → b < hi → P b) : TreN w' lo hi x := OwnIn.fr h hF hP
theorem tres_fr {l : List TreD} (h : Chain (TreN w) lo hi l) (hF : Fr P w w') (hP : ∀ b, lo ≤ b → b < hi → P b) : Chain (TreN w') lo hi l := h.imp fun a b x _ ha hb hx => hx.fr hF fun c h1 h2 => hP c (by omega) (by omega)
end
theorem MdlN.at_ {w : World} {lo p q r hi : Nat} {m : MdlD} (h : MdlN w lo p q r hi m) : MdlAt w w.heap.size m := by
  refine ⟨⟨Flat.of_own crdC_len (by decide) h.cards.own, fun x hx => ?_⟩, Flat.of_own treC_len (by decide) h.trees.own, fun x hx => ?_⟩
  · obtain ⟨a, b, _, _, _, n, _, h2, h3⟩ := h.eachC.mem hx
    refine ⟨Flat.of_own sclC_len (by decide) h2.own, fun y hy => ?_⟩
    obtain ⟨_, _, _, _, _, h4⟩ := h3.mem hy
    exact ⟨h4.cuts.flat, Flat.of_own intC_len (by decide) h4.pts.own⟩
  · obtain ⟨a, b, _, _, _, h2⟩ := h.eachT.mem hx
    exact Flat.of_own nodC_len (by decide) h2.own

/-! What the twin's loops need. -/
/-- One scale more. -/
theorem sn_put {k gs q8 q9 ps : Nat} {w0 w9 : World} {sl2 : List SclD} {v : Scl} {A8 A9 : Option Addr} (HC : Chain (SclN w0) ps w0.heap.size (sl2.take k)) (hk : k < sl2.length) (hgs : gs < ps)
    (hb9 : Below w0.heap.size w0 w9) (h8 : w9.ownsRow w0.heap.size 3 1 (.slice A8 v.cuts.length q8) v.cuts.length (v.cuts.flatMap intC)) (h9 : w9.ownsRow w0.heap.size 3 1 (.slice A9 v.pts.length q9) v.pts.length (v.pts.flatMap intC))
    (hne : ∀ b, (Value.slice A8 v.cuts.length q8).ownBlock = some b → (Value.slice A9 v.pts.length q9).ownBlock ≠ some b) :
    Chain (SclN ((w9.setCell ⟨gs, k * 3, none⟩ (.slice A8 v.cuts.length q8)).setCell ⟨gs, k * 3 + 1, none⟩ (.slice A9 v.pts.length q9))) ps ((w9.setCell ⟨gs, k * 3, none⟩ (.slice A8 v.cuts.length q8)).setCell ⟨gs, k * 3 + 1, none⟩ (.slice A9 v.pts.length q9)).heap.size ((sl2.set k ⟨v, A8, q8, A9, q9⟩).take (k + 1)) := by
  have hF : Fr (fun b => b ≠ gs) w9 ((w9.setCell ⟨gs, k * 3, none⟩ (.slice A8 v.cuts.length q8)).setCell ⟨gs, k * 3 + 1, none⟩ (.slice A9 v.pts.length q9)) := (Fr.set (p := ⟨gs, k * 3, none⟩) (fun e => e rfl) _).trans (Fr.set (p := ⟨gs, k * 3 + 1, none⟩) (fun e => e rfl) _)
  have hsz : ((w9.setCell ⟨gs, k * 3, none⟩ (.slice A8 v.cuts.length q8)).setCell ⟨gs, k * 3 + 1, none⟩ (.slice A9 v.pts.length q9)).heap.size = w9.heap.size := by simp
  have hle := HC.le
  have h1 : Chain (SclN ((w9.setCell ⟨gs, k * 3, none⟩ (.slice A8 v.cuts.length q8)).setCell ⟨gs, k * 3 + 1, none⟩ (.slice A9 v.pts.length q9))) ps w0.heap.size (sl2.take k) := scls_fr (scls_fr HC (Fr.below (P := fun _ => True) hb9) (fun _ _ _ => trivial)) hF (fun b hb _ => by omega)
  rw [hsz]
  refine h1.snoc hk hb9.size ⟨?_, (OwnIn.of h9).fr hF fun b hb _ => by omega⟩
  exact (FlatP.of_own intC_len (by decide) h8 (fun b hb hb2 he => ⟨hb, hb2, hne b he⟩)).move (hF.imp fun b hb => by have := hb.1; omega)
/-- One card more. -/
theorem cn_put {g i s1 p ps : Nat} {w0 wc we : World} {ml : List CrdD} {wt base : Int} {sl sl2 : List SclD} {S1 : Option Addr} (HC : Chain (CrdN w0) p w0.heap.size (ml.take i)) (hi : i < ml.length) (hg : g < p)
    (hF : Fr (fun b => b ≠ g) w0 wc) (hFk : Fr (fun b => some b ≠ (Value.slice S1 sl.length s1).ownBlock) wc we)
    (hown : we.ownsRow w0.heap.size 42 3 (.slice S1 sl.length s1) sl.length (sl2.flatMap sclC)) (hlen : sl2.length = sl.length) (hps : ps = wc.heap.size) (hrow : ∀ b, (Value.slice S1 sl.length s1).ownBlock = some b → b < ps) (HS : Chain (SclN we) ps we.heap.size (sl2.take sl.length)) :
    Chain (CrdN we) p we.heap.size ((ml.set i ⟨wt, base, sl2, S1, s1⟩).take (i + 1)) := by
  have hle := HC.le
  have hsz := hF.size
  have h1 : Chain (CrdN we) p w0.heap.size (ml.take i) := crds_fr (crds_fr HC hF (fun b hb _ => by omega)) hFk (fun b _ hb e => by have := (hown.lt b e.symm).1; omega)
  have hsz2 := hFk.size
  refine h1.snoc hi (by omega) ⟨ps, by omega, ?_, ?_⟩
  · simp only [hlen]
    exact ⟨hown, hrow⟩
  · rw [← hlen, List.take_length] at HS
    exact HS
/-- One tree more. -/
theorem tn_put {i g pt s1 : Nat} {wr w8 : World} {ml : List TreD} {v : Tre} {S1 : Option Addr} (HC : Chain (TreN wr) pt wr.heap.size (ml.take i)) (hi : i < ml.length) (hg : g < pt)
    (hb8 : Below wr.heap.size wr w8) (h8 : w8.ownsRow wr.heap.size 48 5 (.slice S1 v.nodes.length s1) v.nodes.length (v.nodes.flatMap nodC)) :
    Chain (TreN (w8.setCell ⟨g, i * 2 + 1, none⟩ (.slice S1 v.nodes.length s1))) pt (w8.setCell ⟨g, i * 2 + 1, none⟩ (.slice S1 v.nodes.length s1)).heap.size ((ml.set i ⟨v, S1, s1⟩).take (i + 1)) := by
  have hF : Fr (fun b => b ≠ g) w8 (w8.setCell ⟨g, i * 2 + 1, none⟩ (.slice S1 v.nodes.length s1)) := Fr.set (p := ⟨g, i * 2 + 1, none⟩) (fun e => e rfl) _
  have hsz : (w8.setCell ⟨g, i * 2 + 1, none⟩ (.slice S1 v.nodes.length s1)).heap.size = w8.heap.size := by simp
  have hle := HC.le
  rw [hsz]
  refine (tres_fr (tres_fr HC (Fr.below (P := fun _ => True) hb8) (fun _ _ _ => trivial)) hF (fun b hb _ => by omega)).snoc hi hb8.size ?_
  exact (OwnIn.of h8).fr hF fun b hb _ => by omega
/-- A model whose four lists are written. -/
theorem mn_end {lo0 pp lo rr n m b1 c1 t1 : Nat} {W4 wq we : World} {ml : List CrdD} {nl : List TreD} {A1 T1 : Option Addr} {traits need : Int}
    (hc : OwnIn W4 lo0 pp 37 3 (.slice A1 n c1) n (ml.flatMap crdC) ∧ Chain (CrdN W4) pp lo ml) (hml : ml.length = n) (hb : Below lo W4 wq) (hF : Fr (fun b => b ≠ b1) wq we) (hb1 : b1 < lo0) (hp : lo0 ≤ pp)
    (ht : wq.ownsRow lo 45 2 (.slice T1 m t1) m (nl.flatMap treC)) (hnl : nl.length = m) (hrow : ∀ b, (Value.slice T1 m t1).ownBlock = some b → b < rr) (hq : lo ≤ rr) (hch : Chain (TreN wq) rr wq.heap.size (nl.take m)) (hsz : we.heap.size = wq.heap.size) :
    MdlN we lo0 pp lo rr we.heap.size ⟨traits, ml, A1, c1, nl, T1, t1, need⟩ := by
  have hle := hc.2.le
  have hF2 : Fr (fun b => b < lo ∧ b ≠ b1) W4 we := (Fr.of_below hb (fun b hb => hb.1)).trans (hF.imp fun b hb => hb.2)
  subst hml hnl
  rw [List.take_length] at hch
  refine ⟨hc.1.fr hF2 (fun b h1 h2 => ⟨by omega, by omega⟩), crds_fr hc.2 hF2 (fun b h1 h2 => ⟨by omega, by omega⟩), OwnIn.fr ⟨ht, hrow⟩ hF (fun b h1 h2 => by omega), ?_, hp, hq⟩
  show Chain (TreN we) rr we.heap.size nl
  rw [hsz]
  exact tres_fr hch hF (fun b h1 h2 => by omega)
/-- What the twin of a model is, apart. -/
def TwinN (w : World) (traits need : Int) (cl : List CrdD) (tl : List TreD) (e : Ending) (w' : World) : Prop :=
  ∃ cl' tl' C' c' T' t' p q r, e = .returned (.agg #[.int .i64 traits, .slice C' (List.length cl') c', .slice T' (List.length tl') t', .int .i64 need]) ∧ cl'.map CrdD.v = cl.map CrdD.v ∧ tl'.map TreD.v = tl.map TreD.v ∧ MdlN w' (w.heap.size + 1 + 1) p q r w'.heap.size ⟨traits, cl', C', c', tl', T', t', need⟩ ∧ Below w.heap.size w w'
end Go.Proofs.YtpahcbhikmfamaaGreat
