/- An append inside a region that draws, in a fence. -/
import Derived.Test.YtpahcbhikmfamaaGreatRP6A

namespace Go.Proofs.YtpahcbhikmfamaaGreat
open Go.RowKit Go.Shelf Go.Maps

def wasB (need n : Int) : Bool := decide (1000 * need ≤ n)
theorem stepIn_append_own {F : Fence} {nn : Nat} {P : Program} {w : World} {ops : Array Oper} {o : Oper} {a : Act} {K : Act → World → Prop} {Q : Exit → Act → World → Prop} {E : Prop} (hro : F.round = none) (hfn : ∀ f, F.fn f) (hgd : o.guard = none) (s x : Operand) (t : TypeId)
    (ho : o.op = .call { callee := .builtin .append, args := #[s, x], argTypes := #[t, t] })
    (base : Nat) (e : TypeId) (i : TypeInfo) (z : Value) (size bytes : Nat) (ht : P.underlying t = some (.slice e)) (hi : P.info? e = some i) (hz : i.zero = some z)
    (hsize : i.size = size) (hby : i.bytes = bytes) (hzs : z.cells.size = size) (hsz : 0 < size)
    (v : Value) (n : Nat) (xs : List Value) (hs : a.eval s = v) (hown : w.ownsRow base e size v n xs)
    (ad : Addr) (m c : Nat) (news : List Value) (hx : a.eval x = .slice (some ad) m c) (hl : news.length = m * size) (hnews : ∀ j u, news[j]? = some u → w.cell? (ad.add j) = some u) (h1 : ∀ u ∈ news, u.oneCell' = true)
    (h63 : n + m ≤ maxLen) (hbytes : (n + m) * bytes ≤ 140737488355328) (hbase : base ≤ w.heap.size)
    (h : ∀ v' w', w'.ownsRow base e size v' (n + m) (xs ++ news) → w.grownBy w' v.ownBlock → (v'.ownBlock = v.ownBlock ∨ v'.ownBlock = some w.heap.size) → K (a.put o.dst v') w') :
    if Region.wanted o (yielded ops a.tmps) = true then Oper.wpIn F nn P o a w K Q else E := by
  have hw : Region.wanted o (yielded ops a.tmps) = true := by simp [Region.wanted, hgd]
  rw [if_pos hw]
  obtain ⟨v', w', hr, h2, h3, h4, h5⟩ := run_append_own_at (P := P) w base t o.type e i z size bytes ht hi hz hsize hby hzs hsz v n xs hown ad m c news hl hnews h1 h63 hbytes hbase
  refine ⟨fun f _ => hfn f, ?_⟩
  rw [hro, Oper.semAt_none]
  unfold execOp
  simp only [ho, resolve, invoke, builtin, Sem.run_bind, Sem.run_pure, Result.andThen_ok, List.map_toArray, List.map_cons, List.map_nil, hs, hx, hr]
  exact h v' w' h2 h3 h5
theorem own_kx {A B : World} {D M base : Nat} {e : TypeId} {size : Nat} {v : Value} {n : Nat} {xs : List Value} (h : A.ownsRow base e size v n xs) (hk : Kx D M A B) (hb : M ≤ base) : B.ownsRow base e size v n xs := by
  refine ⟨h.1, ?_⟩
  rcases h.2 with h0 | ⟨g, cap, cur, h1, h2, h3, h4⟩
  · exact .inl h0
  · exact .inr ⟨g, cap, cur, h1, h2, (hk.blk g (Array.getElem?_eq_some_iff.1 h3).1 (.inr ⟨Nat.le_trans hb h2, _, h3, rfl⟩)).trans h3, h4⟩
theorem own_kpt {A B : World} {Z : Nat → Prop} {base : Nat} {e : TypeId} {size : Nat} {v : Value} {n : Nat} {xs : List Value} (h : A.ownsRow base e size v n xs) (hk : Kpt Z A B) (hb : ∀ g, base ≤ g → Z g) : B.ownsRow base e size v n xs := by
  refine ⟨h.1, ?_⟩
  rcases h.2 with h0 | ⟨g, cap, cur, h1, h2, h3, h4⟩
  · exact .inl h0
  · exact .inr ⟨g, cap, cur, h1, h2, (hk.blk g (Array.getElem?_eq_some_iff.1 h3).1 (hb g h2)).trans h3, h4⟩
theorem Kpt.own_above {P : Nat → Prop} {A B C : World} {row : Option Nat} (h : Kpt P A B) (hg : B.grownBy C row) (hr : ∀ g, row = some g → A.heap.size ≤ g) : Kpt P A C :=
  ⟨Nat.le_trans h.size hg.size, fun b hb hp => (hg.block b (Nat.lt_of_lt_of_le hb h.size) (fun e => by have := hr b e.symm; omega)).trans (h.blk b hb hp), hg.os.trans h.os, hg.tape.trans h.tape, hg.output.trans h.output⟩
theorem Blk.kpt' {w w' : World} {g : Nat} {cs : Array Value} {t : TypeId} {P : Nat → Prop} (h : Blk w g cs t) (k : Kpt P w w') (hp : P g) : Blk w' g cs t := (k.blk g h.lt hp).trans h
theorem own_low' {w : World} {base base' : Nat} {e : TypeId} {size : Nat} {v : Value} {n : Nat} {xs : List Value} (h : w.ownsRow base e size v n xs) (hb : base' ≤ base) : w.ownsRow base' e size v n xs := own_base h hb
/-- How the rounds are left. -/
def IxR (need : Int) (x : List Int) (scf : List Int → Int) (b4 : Nat) (sl : List Int) (sA : Option Addr) (sa : Nat) (W5 : World) (cc : Code) (M : Nat) (pre : List Vc) (Wa : World) : Prop :=
  cc = .exit 0 ∧ ∃ (pre0 : List Vc) (y : Vc) (VA : Option Addr) (vc : Nat), pre = pre0 ++ [y] ∧ (∀ z ∈ pre0, wasB need (scf z.v) = wasB need (scf x)) ∧ ¬ wasB need (scf y.v) = wasB need (scf x) ∧ W5.heap.size ≤ M ∧ M ≤ Wa.heap.size ∧ Blk Wa b4 #[.slice sA sl.length sa] 26 ∧ Blk Wa (b4 + 1) #[.slice VA sl.length vc] 26 ∧ Wa.ownsRow M 3 1 (.slice VA sl.length vc) sl.length ((pickV sl y.v).flatMap intC) ∧ Kpt (fun b => b < W5.heap.size ∧ b ≠ b4 ∧ b ≠ b4 + 1) W5 Wa
theorem find_prefix {α : Type} (p : α → Bool) : ∀ {l L : List α} {y : α}, l ++ [y] <+: L → (∀ z ∈ l, p z = false) → p y = true → L.find? p = some y
  | [], L, y, h, _, hy => by
    obtain ⟨t, rfl⟩ := h
    simp [hy]
  | z :: l, L, y, h, hl, hy => by
    obtain ⟨t, rfl⟩ := h
    rw [List.cons_append, List.cons_append, List.find?_cons, hl z (List.mem_cons_self ..)]
    exact find_prefix p ⟨t, rfl⟩ (fun w hw => hl w (List.mem_cons_of_mem _ hw)) hy
/-- What the reasons are, as they are handed back. -/
def ReasS (w : World) (r : Option (List Int × List Int)) (e : Ending) (w' : World) : Prop :=
  Below w.heap.size w w' ∧ ∃ (A : Option Addr) (a : Nat) (B : Option Addr) (b : Nat) (s v : List Int), e = .returned (.tuple #[.slice A s.length a, .slice B v.length b]) ∧ IntsAt w' w'.heap.size A s ∧ IntsAt w' w'.heap.size B v ∧ (match r with | none => s = [] ∧ v = [] | some p => s = p.1 ∧ v = p.2)
theorem flat_shut {n lo : Nat} {α : Type} {f : α → List Value} {w w' : World} {A : Option Addr} {l : List α} (h0 : 0 < n) (hl : ∀ x, (f x).length = n) (h : Flat n f w w.heap.size A l) (hs : Shut lo w w') : Flat n f w' w'.heap.size A l := fun k hk => by
  obtain ⟨b, off, e, hb, hc⟩ := h k hk
  refine ⟨b, off, e, Nat.lt_of_lt_of_le hb hs.size, fun i hi => ?_⟩
  have h1 : CellsAt w b := by
    have h2 := hc 0 h0
    rw [List.getElem?_eq_getElem (by rw [hl]; exact h0)] at h2
    obtain ⟨o, ho⟩ : ∃ o, w.heap[b]? = some o := ⟨_, Array.getElem?_eq_getElem hb⟩
    refine ⟨o, ho, ?_⟩
    cases o <;> simp [World.cell?, ho] at h2 ⊢ <;> rfl
  exact (hs.cell hb (.inr h1)).trans (hc i hi)
theorem two_put {W : World} {g4 g5 : Nat} {a4 a5 v4 v5 : Value} {t : TypeId} (z4 : Blk W g4 #[a4] t) (z5 : Blk W g5 #[a5] t) (hne : g4 ≠ g5) :
    Blk ((W.setCell ⟨g4, 0, none⟩ v4).setCell ⟨g5, 0, none⟩ v5).drew g4 #[v4] t ∧ Blk ((W.setCell ⟨g4, 0, none⟩ v4).setCell ⟨g5, 0, none⟩ v5).drew g5 #[v5] t ∧ Kpt (fun b => b ≠ g4 ∧ b ≠ g5) W ((W.setCell ⟨g4, 0, none⟩ v4).setCell ⟨g5, 0, none⟩ v5).drew := by
  refine ⟨?_, ?_, ?_⟩
  · have := (z4.set 0 v4).far (p := ⟨g5, 0, none⟩) hne v5
    exact (by simpa using this : Blk ((W.setCell ⟨g4, 0, none⟩ v4).setCell ⟨g5, 0, none⟩ v5) g4 #[v4] t)
  · have := (z5.far (p := ⟨g4, 0, none⟩) (fun e => hne e.symm) v4).set 0 v5
    exact (by simpa using this : Blk ((W.setCell ⟨g4, 0, none⟩ v4).setCell ⟨g5, 0, none⟩ v5) g5 #[v5] t)
  · exact ((Kpt.set (p := ⟨g4, 0, none⟩) (fun h => h.1 rfl) _).trans (Kpt.set (p := ⟨g5, 0, none⟩) (fun h => h.2 rfl) _)).trans (Kpt.of_all (Below.refl _ _).drew)
theorem two_put' {W : World} {g4 g5 : Nat} {a4 a5 v4 v5 : Value} {t : TypeId} (z4 : Blk W g4 #[a4] t) (z5 : Blk W g5 #[a5] t) (hne : g4 ≠ g5) :
    Blk ((W.setCell ⟨g5, 0, none⟩ v5).setCell ⟨g4, 0, none⟩ v4).drew g4 #[v4] t ∧ Blk ((W.setCell ⟨g5, 0, none⟩ v5).setCell ⟨g4, 0, none⟩ v4).drew g5 #[v5] t ∧ Kpt (fun b => b ≠ g4 ∧ b ≠ g5) W ((W.setCell ⟨g5, 0, none⟩ v5).setCell ⟨g4, 0, none⟩ v4).drew := by
  obtain ⟨h1, h2, h3⟩ := two_put (v4 := v5) (v5 := v4) z5 z4 (fun e => hne e.symm)
  exact ⟨h2, h1, h3.imp (fun b hb => ⟨hb.2, hb.1⟩)⟩
theorem sets_cell0 {w : World} {A B : Option Addr} {n c g : Nat} {t : TypeId} {l : List Int} (h : IntsAt w w.heap.size A l) (hB : Blk w g #[.slice B n c] t) {i : Nat} (hi : i < l.length) : ∀ b off, A = some ⟨b, off, none⟩ → b ≠ g := fun b off e e' => by
  obtain ⟨b1, off1, e1, _, hc⟩ := ints_at h hi
  rw [e] at e1
  cases e1
  subst e'
  rw [hB.cell] at hc
  rcases Nat.eq_zero_or_pos (off + i) with h0 | h0
  · rw [h0] at hc; simp at hc
  · rw [Array.getElem?_eq_none (by simp; omega)] at hc; cases hc
theorem ints_two {W W' : World} {A B B' : Option Addr} {n c n' c' g4 g5 : Nat} {t : TypeId} {l : List Int} (h : IntsAt W W.heap.size A l) (z4 : Blk W g4 #[.slice B n c] t) (z5 : Blk W g5 #[.slice B' n' c'] t) (hk : Kpt (fun b => b ≠ g4 ∧ b ≠ g5) W W') : IntsAt W' W'.heap.size A l := fun i hi => by
  obtain ⟨b, off, e, hb, hc⟩ := h i hi
  exact ⟨b, off, e, Nat.lt_of_lt_of_le hb hk.size, fun j hj => (hk.cell hb ⟨sets_cell0 h z4 hi b off e, sets_cell0 h z5 hi b off e⟩).trans (hc j hj)⟩
theorem Marks.kpt {lo : Nat} {ds : List Deferred} {w w' : World} {Z : Nat → Prop} (h : Marks lo ds w) (hk : Kpt Z w w') (hZ : ∀ b o, w.heap[b]? = some o → o.isCells = false → Z b) : Marks lo ds w' := ⟨h.1, fun d hd => by
  obtain ⟨D, e, h1, h2⟩ := h.2 d hd
  exact ⟨D, e, h1, (hk.blk D (Array.getElem?_eq_some_iff.1 h2).1 (hZ D _ h2 rfl)).trans h2⟩⟩
theorem sets_cell {w : World} {A B : Option Addr} {n c g : Nat} {t : TypeId} {l : List Int} (h : IntsAt w w.heap.size A l) (hB : Blk w g #[.slice B n c] t) {i : Nat} (hi : i < l.length) : ∃ b off, A = some ⟨b, off, none⟩ ∧ b < w.heap.size ∧ b ≠ g ∧ w.cell? ⟨b, off + i, none⟩ = some (.int .i64 l[i]) := by
  obtain ⟨b, off, e, hb, hc⟩ := ints_at h hi
  refine ⟨b, off, e, hb, fun e' => ?_, hc⟩
  subst e'
  rw [hB.cell] at hc
  rcases Nat.eq_zero_or_pos (off + i) with h0 | h0
  · rw [h0] at hc; simp at hc
  · rw [Array.getElem?_eq_none (by simp; omega)] at hc; cases hc
theorem pickV_take {s y : List Int} {i : Nat} (h : i < s.length) : pickV (s.take (i + 1)) y = pickV (s.take i) y ++ [y.getD s[i].toNat 0] := by
  unfold pickV
  rw [List.take_succ_eq_append_getElem h, List.map_append]; rfl
end Go.Proofs.YtpahcbhikmfamaaGreat
