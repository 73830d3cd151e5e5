/- Open, by the program. Written by a program. -/
import Derived.Test.YtpahcbhikmfamaaGreatSPrg7
import Derived.Deep.RegionLawGrows

namespace Go.Proofs.YtpahcbhikmfamaaGreat
open Go.RowKit Go.Maps

/-- As Flat, in blocks from lo on, none of which is a row's. -/
def FlatX {α : Type} (n : Nat) (f : α → List Value) (w : World) (lo : Nat) (row : Option Nat) (A : Option Addr) (l : List α) : Prop :=
  ∀ k, (h : k < l.length) → ∃ b off, A = some ⟨b, off, none⟩ ∧ lo ≤ b ∧ b < w.heap.size ∧ some b ≠ row ∧ ∀ i, i < n → w.cell? ⟨b, off + k * n + i, none⟩ = (f l[k])[i]?
section
variable {α : Type} {n : Nat} {f : α → List Value} {w w' : World} {lo : Nat} {row row' : Option Nat} {A : Option Addr} {l : List α}
theorem FlatX.flat (h : FlatX n f w lo row A l) : Flat n f w w.heap.size A l := fun k hk => by
  obtain ⟨b, off, e, _, h2, _, h4⟩ := h k hk
  exact ⟨b, off, e, h2, h4⟩
theorem FlatX.below (h : FlatX n f w lo row A l) (hb : Below w.heap.size w w') : FlatX n f w' lo row A l := fun k hk => by
  obtain ⟨b, off, e, h1, h2, h3, h4⟩ := h k hk
  exact ⟨b, off, e, h1, Nat.lt_of_lt_of_le h2 hb.size, h3, fun i hi => (hb.cell (p := ⟨b, off + k * n + i, none⟩) h2).trans (h4 i hi)⟩
theorem FlatX.kept (h : FlatX n f w lo row A l) (hg : w.grownBy w' row) (hr : row' = row ∨ row' = some w.heap.size) : FlatX n f w' lo row' A l := fun k hk => by
  obtain ⟨b, off, e, h1, h2, h3, h4⟩ := h k hk
  refine ⟨b, off, e, h1, Nat.lt_of_lt_of_le h2 hg.size, fun e' => ?_, fun i hi => (World.cell?_of_block (hg.block b h2 h3)).trans (h4 i hi)⟩
  rcases hr with rfl | rfl
  · exact h3 e'
  · have := Option.some.inj e'; omega
theorem FlatX.setCell (h : FlatX n f w lo row A l) {p : Addr} (hp : p.block < lo) (v : Value) : FlatX n f (w.setCell p v) lo row A l := fun k hk => by
  obtain ⟨b, off, e, h1, h2, h3, h4⟩ := h k hk
  exact ⟨b, off, e, h1, by simpa using h2, h3, fun i hi => (World.cell?_of_block (heap_setCell_other w p b v (by omega))).trans (h4 i hi)⟩
theorem FlatX.of_own (hn : ∀ x, (f x).length = n) (h0 : 0 < n) {base : Nat} {c : Nat} {t : TypeId} (h : w.ownsRow base t n (.slice A l.length c) l.length (l.flatMap f)) (hlo : lo ≤ base) (hrow : ∀ g, row = some g → g < base) : FlatX n f w lo row A l := fun k hk => by
  obtain ⟨g, cap, hv, hb, hlt⟩ := h.form (by omega)
  obtain ⟨b, off, e, h2, h4⟩ := Flat.of_own hn h0 h k hk
  simp only [Value.slice.injEq, true_and] at hv
  obtain ⟨rfl, rfl⟩ := hv
  simp only [Option.some.injEq, Addr.mk.injEq, and_true] at e
  obtain ⟨rfl, rfl⟩ := e
  exact ⟨_, _, rfl, by omega, h2, fun e' => by have := hrow _ e'.symm; omega, h4⟩
end
def ShInv (w : World) (lo : Nat) (A : Option Addr) (c n : Nat) (l : List ShD) : Prop :=
  l.length = n ∧ w.ownsRow lo 83 3 (.slice A n c) n (l.flatMap shC) ∧ ∀ y ∈ l, FlatX 1 partC w lo (Value.slice A n c).ownBlock y.P y.parts
section
variable {w w' : World} {lo : Nat} {A A' : Option Addr} {c c' n : Nat} {l : List ShD}
theorem ShInv.below (h : ShInv w lo A c n l) (hb : Below w.heap.size w w') : ShInv w' lo A c n l := ⟨h.1, own_below h.2.1 hb, fun y hy => (h.2.2 y hy).below hb⟩
theorem ShInv.alloc (h : ShInv w lo A c n l) (o : Obj) : ShInv (w.alloc o) lo A c n l := h.below ((Below.refl _ _).alloc (Nat.le_refl _) o)
theorem ShInv.setCell (h : ShInv w lo A c n l) {p : Addr} (hp : p.block < lo) (v : Value) : ShInv (w.setCell p v) lo A c n l := ⟨h.1, own_far h.2.1 hp v, fun y hy => (h.2.2 y hy).setCell hp v⟩
theorem ShInv.lt (h : ShInv w lo A c n l) : ∀ g, (Value.slice A n c).ownBlock = some g → lo ≤ g ∧ g < w.heap.size := fun g hg => h.2.1.lt g hg
theorem ShInv.less {lo' : Nat} (h : ShInv w lo A c n l) (hlo : lo' ≤ lo) : ShInv w lo' A c n l := ⟨h.1, own_base h.2.1 hlo, fun y hy k hk => by
  obtain ⟨b, off, e, h1, h2⟩ := h.2.2 y hy k hk
  exact ⟨b, off, e, by omega, h2⟩⟩
theorem ShInv.push (h : ShInv w lo A c n l) {z : ShD} (hz : FlatX 1 partC w lo (Value.slice A n c).ownBlock z.P z.parts) (hown : w'.ownsRow lo 83 3 (.slice A' (n + 1) c') (n + 1) (l.flatMap shC ++ shC z)) (hg : w.grownBy w' (Value.slice A n c).ownBlock) (ho : (Value.slice A' (n + 1) c').ownBlock = (Value.slice A n c).ownBlock ∨ (Value.slice A' (n + 1) c').ownBlock = some w.heap.size) : ShInv w' lo A' c' (n + 1) (l ++ [z]) := by
  refine ⟨by rw [List.length_append, h.1]; rfl, by rw [List.flatMap_append]; simpa using hown, fun y hy => ?_⟩
  rcases List.mem_append.1 hy with hy | hy
  · exact (h.2.2 y hy).kept hg ho
  · rw [List.mem_singleton] at hy
    subst hy
    exact hz.kept hg ho
end
theorem cardParts_len (l : List SclD) : (cardParts l).length = l.length := by unfold cardParts; simp
theorem shC_card (wt base : Int) (l : List SclD) (P : Option Addr) (p : Nat) : shC ⟨wt, base, cardParts l, P, p⟩ = [.int .i64 wt, .int .i64 base, .slice P l.length p] := by unfold shC; rw [cardParts_len]
def ShD.core (y : ShD) : Int × Int × List PartD := (y.weight, y.base, y.parts)
def crdCore (y : CrdD) : Int × Int × List PartD := (y.weight, y.base, cardParts y.scales)
def treCore (y : TreD) : Int × Int × List PartD := (y.v.weight, 0, [.tre y])
theorem sh_new (W : World) (v0 v1 v2 : Value) (t : TypeId) : ∀ j u, ([v0, v1, v2] : List Value)[j]? = some u → (W.alloc (.cells #[v0, v1, v2] t)).cell? ((⟨W.heap.size, 0, none⟩ : Addr).add j) = some u := fun j u hj => by
  have := (Blk.new W #[v0, v1, v2] t).cell j
  rw [show ((⟨W.heap.size, 0, none⟩ : Addr).add j) = ⟨W.heap.size, j, none⟩ by rw [Addr.add]; simp; exact fun h => h.symm]
  refine this.trans ?_
  rw [← hj]; simp
theorem sh_new2 (W : World) (g : Nat) (hg : g = W.heap.size) (v0 v1 v2 : Value) (t : TypeId) : ∀ j u, ([v0, v1, v2] : List Value)[j]? = some u → (W.alloc (.cells #[v0, v1, v2] t)).cell? ((⟨g, 0, none⟩ : Addr).add j) = some u := by subst hg; exact sh_new W v0 v1 v2 t
theorem mod_put {w : World} {g : Nat} {a0 a1 a2 a3 a4 c4 : Value} {t : TypeId} (h : Blk w g #[a0, a1, a2, a3, a4] t) : Blk (w.setCell ⟨g, 4, none⟩ c4) g #[a0, a1, a2, a3, c4] t := by
  have := h.set 4 c4
  simpa using this
theorem ShInv.at_ {w : World} {lo : Nat} {A : Option Addr} {c n : Nat} {l : List ShD} (h : ShInv w lo A c n l) (hp : ∀ y ∈ l, ∀ q ∈ y.parts, PartAt w w.heap.size q) : SharesAt w w.heap.size A l := by
  obtain ⟨rfl, h2, h3⟩ := h
  exact ⟨Flat.of_own shC_len (by decide) h2, fun y hy => ⟨(h3 y hy).flat, hp y hy⟩⟩
theorem cardParts_mem {l : List SclD} {q : PartD} (h : q ∈ cardParts l) : ∃ x k, x ∈ l ∧ k < l.length ∧ q = .scl x k := by
  obtain ⟨k, hk, rfl⟩ := List.mem_map.1 h
  rw [List.mem_range] at hk
  exact ⟨l[k], k, List.getElem_mem hk, hk, by rw [getD_lt l default hk]⟩
theorem core_cases {cl : List CrdD} {tl : List TreD} {sh : List ShD} (h : sh.map ShD.core = cl.map crdCore ++ tl.map treCore) : ∀ y ∈ sh, (∃ x ∈ cl, y.weight = x.weight ∧ y.base = x.base ∧ y.parts = cardParts x.scales) ∨ (∃ x ∈ tl, y.weight = x.v.weight ∧ y.base = 0 ∧ y.parts = [.tre x]) := fun y hy => by
  have h1 : y.core ∈ cl.map crdCore ++ tl.map treCore := by rw [← h]; exact List.mem_map_of_mem hy
  rcases List.mem_append.1 h1 with h1 | h1
  · obtain ⟨x, hx, e⟩ := List.mem_map.1 h1
    simp only [ShD.core, crdCore, Prod.mk.injEq] at e
    exact .inl ⟨x, hx, e.1.symm, e.2.1.symm, e.2.2.symm⟩
  · obtain ⟨x, hx, e⟩ := List.mem_map.1 h1
    simp only [ShD.core, treCore, Prod.mk.injEq] at e
    exact .inr ⟨x, hx, e.1.symm, e.2.1.symm, e.2.2.symm⟩
theorem core_parts {W : World} {B : Nat} {traits need : Int} {cl : List CrdD} {tl : List TreD} {C T : Option Addr} {c t : Nat} {sh : List ShD} (hm : MdlAt W B ⟨traits, cl, C, c, tl, T, t, need⟩) (h : sh.map ShD.core = cl.map crdCore ++ tl.map treCore) : ∀ y ∈ sh, ∀ q ∈ y.parts, PartAt W B q := fun y hy q hq => by
  rcases core_cases h y hy with ⟨x, hx, _, _, e⟩ | ⟨x, hx, _, _, e⟩
  · rw [e] at hq
    obtain ⟨z, k, hz, _, rfl⟩ := cardParts_mem hq
    exact (hm.cards.each x hx).each z hz
  · rw [e, List.mem_singleton] at hq
    subst hq
    exact hm.trees.each x hx
/-- What open answers of a valid model. -/
def OpenS (w : World) (traits need : Int) (cl : List CrdD) (tl : List TreD) (C T : Option Addr) (c t : Nat) (e : Ending) (w' : World) : Prop :=
  ∃ S s sh, e = .returned (.tuple #[.agg #[.int .i64 traits, .slice C cl.length c, .slice T tl.length t, .int .i64 need, .slice S (cl.length + tl.length) s], .int .i64 0]) ∧ sh.map ShD.core = cl.map crdCore ++ tl.map treCore ∧ ShInv w' w.heap.size S s (cl.length + tl.length) sh ∧ Below w.heap.size w w'
theorem shInfo : (Tryz.prog.info? 83).map (fun i => (i.zero, i.size, i.bytes)) = some (some (.agg #[.int .i64 0, .int .i64 0, .slice none 0 0]), 3, 40) := by kernel_rfl

set_option maxRecDepth 100000 in
set_option maxHeartbeats 8000000 in
theorem open_all (traits need : Int) (cl : List CrdD) (tl : List TreD) (C T : Option Addr) (c t : Nat) (w : World) (h : MdlAt w w.heap.size ⟨traits, cl, C, c, tl, T, t, need⟩) (hls : MdlLe ⟨traits, cl, C, c, tl, T, t, need⟩) (hq : mdlB ⟨traits, cl.map CrdD.v, tl.map TreD.v, need⟩ = true) :
    Calls Tryz.prog 22 #[.agg #[.int .i64 traits, .slice C cl.length c, .slice T tl.length t, .int .i64 need]] w fun e w' => OpenS w traits need cl tl C T c t e w' := by
  obtain ⟨i0, hi0, hz0, hz1, hz2⟩ := info_parts shInfo
  have b1 := (Below.refl w.heap.size w).alloc (Nat.le_refl _) (.cells #[.int .i64 traits, .slice C cl.length c, .slice T tl.length t, .int .i64 need] 25)
  have k1 := Blk.new w #[.int .i64 traits, .slice C cl.length c, .slice T tl.length t, .int .i64 need] 25
  have g1 := k1.lt
  have k1c := k1.cell
  have b1s := b1.size
  have HC := Lib.hid (fun W hb => checkP_any ⟨traits, cl, C, c, tl, T, t, need⟩ W (h.later (w' := W) hb) hls)
  have he : mdlE (MdlD.v ⟨traits, cl, C, c, tl, T, t, need⟩) = 0 := by unfold mdlE; exact if_pos hq
  rw [he] at HC
  have b2 := b1.alloc b1s (.cells #[.int .i64 0, .slice none 0 0, .slice none 0 0, .int .i64 0, .slice none 0 0] 66)
  have k2 := k1.alloc (.cells #[.int .i64 0, .slice none 0 0, .slice none 0 0, .int .i64 0, .slice none 0 0] 66)
  have kr := newAt' (w.alloc (.cells #[.int .i64 traits, .slice C cl.length c, .slice T tl.length t, .int .i64 need] 25)) #[.int .i64 0, .slice none 0 0, .slice none 0 0, .int .i64 0, .slice none 0 0] 66 (g := w.heap.size + 1) (by simp)
  go_enter Tryz.func22, Tryz.ntmps22
  go_wp2_with fail
  generalize hW2 : (w.alloc (.cells #[.int .i64 traits, .slice C cl.length c, .slice T tl.length t, .int .i64 need] 25)).alloc (.cells #[.int .i64 0, .slice none 0 0, .slice none 0 0, .int .i64 0, .slice none 0 0] 66) = W2 at *
  have hs2 : W2.heap.size = w.heap.size + 1 + 1 := by rw [← hW2]; simp
  have H2 := Lib.hid (h.later b2)
  clear hW2 k1c k1 b1 b1s g1 h
  have b2s := b2.size
  go_wp2_with (go_at_call 32; (with_reducible refine (HC.out _ b2).mono ?_); rintro e w5 ⟨rfl, h5⟩; have k5c := (k2.below h5 (by omega)).cell; have k6c := ((k2.below h5 (by omega)).alloc (.cells #[.int .i64 traits, .slice C cl.length c, .slice T tl.length t, .int .i64 need, .slice none 0 0] 66)).cell; have h5s := h5.size)
  have km := Blk.new w5 #[.int .i64 traits, .slice C cl.length c, .slice T tl.length t, .int .i64 need, .slice none 0 0] 66
  have b6 := h5.alloc h5s (.cells #[.int .i64 traits, .slice C cl.length c, .slice T tl.length t, .int .i64 need, .slice none 0 0] 66)
  have hs6 : (w5.alloc (.cells #[.int .i64 traits, .slice C cl.length c, .slice T tl.length t, .int .i64 need, .slice none 0 0] 66)).heap.size = w5.heap.size + 1 := by simp
  have hW0 : w5.heap.size = w5.heap.size := rfl
  clear k5c k6c HC he h5
  generalize w5.alloc (.cells #[.int .i64 traits, .slice C cl.length c, .slice T tl.length t, .int .i64 need, .slice none 0 0] 66) = W6 at *
  generalize w5.heap.size = gm at *
  go_loopw [21] (fun ii wr => ∃ (i : Nat) (A2 : Option Addr) (c2 : Nat) (sh : List ShD), i ≤ cl.length ∧ ii = .int .i64 i ∧ Hid (Blk wr gm #[.int .i64 traits, .slice C cl.length c, .slice T tl.length t, .int .i64 need, .slice A2 i c2] 66) ∧ Hid (sh.map ShD.core = (cl.take i).map crdCore ∧ ShInv wr W6.heap.size A2 c2 i sh ∧ Below W2.heap.size W2 wr ∧ W6.heap.size ≤ wr.heap.size)) (fun ii _ => cl.length - (vInt ii).toNat)
  case atStart => exact ⟨0, none, 0, [], Nat.zero_le _, rfl, Lib.hid km, Lib.hid ⟨rfl, ⟨rfl, World.ownsRow_nil _ _ _ _, fun y hy => by cases hy⟩, b6, Nat.le_refl _⟩⟩
  case round =>
    obtain ⟨i, A2, c2, sh, hi, rfl, HK, hR⟩ := hrel
    have kr2 := HK.out
    obtain ⟨hCo, hSh, hB, hS⟩ := hR.out
    have k2w := (k2.below hB (by omega)).cell
    by_cases hlt : i < cl.length
    · have hil : (i : Int) < (cl.length : Int) := by omega
      have h2 := (H2.out.later hB).cards
      obtain ⟨b, off, rfl, hb, c0, c1, c2'⟩ := crds_at h2.row hlt
      have hmem := List.getElem_mem hlt
      have ba := (Below.refl wr.heap.size wr).alloc (Nat.le_refl _) (.cells #[.int .i64 cl[i].weight, .int .i64 cl[i].base, .slice cl[i].S cl[i].scales.length cl[i].s] 37)
      have HSo := Lib.hid (fun W hb => shareOf_all cl[i].weight cl[i].base cl[i].scales cl[i].S cl[i].s W (((h2.each _ hmem).later ba).later (w' := W) hb) (hls.scales _ hmem))
      have HT1 : Hid (∀ z : ShD, z.core = crdCore cl[i] → (sh ++ [z]).map ShD.core = (cl.take (i + 1)).map crdCore) := Lib.hid (fun z hz => by rw [List.take_succ_eq_append_getElem hlt, List.map_append, List.map_append, hCo, List.map_singleton, List.map_singleton, hz])
      have kn := Blk.new wr #[.int .i64 cl[i].weight, .int .i64 cl[i].base, .slice cl[i].S cl[i].scales.length cl[i].s] 37
      have ks := kr2.alloc (.cells #[.int .i64 cl[i].weight, .int .i64 cl[i].base, .slice cl[i].S cl[i].scales.length cl[i].s] 37)
      have HSh := Lib.hid (hSh.below ba)
      have bas := ba.size
      have hBs := hB.size
      have HB3 := Lib.hid (hB.alloc hBs (.cells #[.int .i64 cl[i].weight, .int .i64 cl[i].base, .slice cl[i].S cl[i].scales.length cl[i].s] 37))
      clear hR hSh h2 HK kr2 hCo hmem k2w
      generalize cl[i] = y at *
      go_upto_region 8 with fail
      generalize hW4 : wr.alloc (.cells #[.int .i64 y.weight, .int .i64 y.base, .slice y.S y.scales.length y.s] 37) = W4 at *
      clear hW4 c0 c1 c2' ba hB
      have ksc := ks.cell
      have knc := kn.cell
      have D0 : Below W4.heap.size W4 W4.drew := (Below.refl _ _).drew
      have hi10 : i ≤ 100 := by have := hls.cards; simp only at this; omega
      have hgm : gm < W6.heap.size := by omega
      go_region_law (first
        | (go_simp; go_at_call 33; (with_reducible refine (HSo.out _ D0).mono ?_); rintro e w7 ⟨P, p, rfl, hownP, h7⟩; have k7 := ks.below (D0.trans h7) ks.lt; have k7c := k7.cell; have hsA := (HSh.out.below (D0.trans h7)).alloc (.cells #[.int .i64 y.weight, .int .i64 y.base, .slice P y.scales.length p] 83); have kA := k7.alloc (.cells #[.int .i64 y.weight, .int .i64 y.base, .slice P y.scales.length p] 83); have kAc := kA.cell; have hv7 := (D0.trans h7).size)
        | (refine step_append_opt (by rfl) _ _ _ (by rfl) W6.heap.size 83 i0 _ 3 40 Tryz.underlying64 hi0 hz0 hz1 hz2 rfl (by decide) _ _ _ (by rfl) hsA.2.1 (some ⟨w7.heap.size, 0, none⟩) 1 1 [.int .i64 y.weight, .int .i64 y.base, .slice P y.scales.length p] (by rfl) (fun e => by cases e) (by rfl) (fun ad e => by cases e; exact sh_new w7 _ _ _ _) (by simp [Value.oneCell']) (by unfold maxLen; omega) (by omega) (by simp; omega) ?_; intro v8 w8 hown8 hg8 ho8; obtain ⟨A3, c3, rfl⟩ := own_slice hown8; have k8 := kA.grown hg8 (fun e => by have := (hsA.lt _ e.symm).1; omega); have k8c := k8.cell; have z8 := k8.free 4))
      all_goals have hb7 := D0.trans h7
      all_goals have hfx : FlatX 1 partC (w7.alloc (.cells #[.int .i64 y.weight, .int .i64 y.base, .slice P y.scales.length p] 83)) W6.heap.size (Value.slice A2 i c2).ownBlock P (cardParts y.scales) := FlatX.below (FlatX.of_own (n := 1) (f := partC) (base := W4.heap.size) (c := p) partC_len (by decide) (by rw [cardParts_len]; exact hownP) (by omega) (fun g e => (HSh.out.lt g e).2)) ((Below.refl _ _).alloc (Nat.le_refl _) _)
      all_goals have hpush := ShInv.push (z := ⟨y.weight, y.base, cardParts y.scales, P, p⟩) hsA hfx (by rw [shC_card]; exact hown8) hg8 ho8
      all_goals have hsz8 := hg8.size
      all_goals rw [World.size_alloc] at hsz8
      all_goals have hB8 := ((HB3.out.trans (hb7.mono (by omega))).alloc (by omega) (.cells #[.int .i64 y.weight, .int .i64 y.base, .slice P y.scales.length p] 83)).grown hg8 (by rw [World.size_alloc]; omega) (fun k e => by have := (hsA.lt k e).1; omega)
      all_goals have HF : Hid (Blk (w8.setCell ⟨gm, 4, none⟩ (.slice A3 (i + 1) c3)) gm #[.int .i64 traits, .slice (some ⟨b, off, none⟩) cl.length c, .slice T tl.length t, .int .i64 need, .slice A3 (i + 1) c3] 66 ∧ (sh ++ [(⟨y.weight, y.base, cardParts y.scales, P, p⟩ : ShD)]).map ShD.core = (cl.take (i + 1)).map crdCore ∧ ShInv (w8.setCell ⟨gm, 4, none⟩ (.slice A3 (i + 1) c3)) W6.heap.size A3 c3 (i + 1) (sh ++ [(⟨y.weight, y.base, cardParts y.scales, P, p⟩ : ShD)]) ∧ Below W2.heap.size W2 (w8.setCell ⟨gm, 4, none⟩ (.slice A3 (i + 1) c3)) ∧ W6.heap.size ≤ (w8.setCell ⟨gm, 4, none⟩ (.slice A3 (i + 1) c3)).heap.size) := Lib.hid ⟨mod_put k8, HT1.out _ rfl, hpush.setCell (p := ⟨gm, 4, none⟩) hgm _, hB8.setCell (p := ⟨gm, 4, none⟩) h5s _, by simp; omega⟩
      all_goals clear hpush hfx hB8 hsA kA hownP hown8 hg8 ho8 k7 k8 kAc k7c k8c h7 hb7
      all_goals go_wp2_with fail
      all_goals go_roundw
      all_goals first
        | (simp [vInt]; omega; done)
        | exact ⟨i + 1, A3, c3, _, by omega, by go_num, Lib.hid HF.out.1, Lib.hid HF.out.2⟩
    · have hil : ¬ (i : Int) < (cl.length : Int) := by omega
      obtain rfl : i = cl.length := by omega
      have k2c := k2w
      have kmc := kr2.cell
      have HCo := Lib.hid hCo
      have HSh := Lib.hid hSh
      have HB1 := Lib.hid hB
      rw [List.take_length] at HCo
      clear hR hCo hSh hB HK
      go_wp2_with fail
      generalize wr = W7 at *
      clear k2w k2c kmc
      go_loopw [36] (fun ii wr => ∃ (i : Nat) (A2 : Option Addr) (c2 : Nat) (sh : List ShD), i ≤ tl.length ∧ ii = .int .i64 i ∧ Hid (Blk wr gm #[.int .i64 traits, .slice C cl.length c, .slice T tl.length t, .int .i64 need, .slice A2 (cl.length + i) c2] 66) ∧ Hid (sh.map ShD.core = cl.map crdCore ++ (tl.take i).map treCore ∧ ShInv wr W6.heap.size A2 c2 (cl.length + i) sh ∧ Below W2.heap.size W2 wr ∧ W6.heap.size ≤ wr.heap.size)) (fun ii _ => tl.length - (vInt ii).toNat)
      case atStart => exact ⟨0, A2, c2, sh, Nat.zero_le _, rfl, Lib.hid kr2, Lib.hid ⟨by rw [HCo.out]; simp, HSh.out, HB1.out, hS⟩⟩
      clear HCo HSh HB1 kr2
      case round =>
        obtain ⟨i, A2, c2, sh, hi, rfl, HK, hR⟩ := hrel
        have kr2 := HK.out
        obtain ⟨hCo, hSh, hB, hS⟩ := hR.out
        have k2w := (k2.below hB (by omega)).cell
        by_cases hlt : i < tl.length
        · have hil : (i : Int) < (tl.length : Int) := by omega
          have h2 := (H2.out.later hB).trees
          obtain ⟨b, off, rfl, hb, c0, c1⟩ := tres_at h2.row hlt
          have HT1 : Hid (∀ z : ShD, z.core = treCore tl[i] → (sh ++ [z]).map ShD.core = cl.map crdCore ++ (tl.take (i + 1)).map treCore) := Lib.hid (fun z hz => by rw [List.take_succ_eq_append_getElem hlt, List.map_append, List.map_append, hCo, List.map_singleton, List.map_singleton, hz, List.append_assoc])
          have kn := Blk.new wr #[.int .i64 tl[i].v.weight, .slice tl[i].T tl[i].v.nodes.length tl[i].t] 45
          have ks := kr2.alloc (.cells #[.int .i64 tl[i].v.weight, .slice tl[i].T tl[i].v.nodes.length tl[i].t] 45)
          have hS4 := hSh.alloc (.cells #[.int .i64 tl[i].v.weight, .slice tl[i].T tl[i].v.nodes.length tl[i].t] 45)
          have hBs := hB.size
          have hs4 := kn.lt
          have HB3 := hB.alloc hBs (.cells #[.int .i64 tl[i].v.weight, .slice tl[i].T tl[i].v.nodes.length tl[i].t] 45)
          clear hR hSh h2 HK kr2 hCo hB
          generalize tl[i] = y at *
          go_upto_region 13 with fail
          generalize hW4 : wr.alloc (.cells #[.int .i64 y.v.weight, .slice y.T y.v.nodes.length y.t] 45) = W4 at *
          clear hW4 c0 c1
          have ksc := ks.cell
          have knc := kn.cell
          have hi10 : cl.length + i ≤ 100 := by have h7 := hls.cards; have h8 := hls.trees; simp only at h7 h8; omega
          have hgm : gm < W6.heap.size := by omega
          have hSa := (hS4.alloc (.cells #[.iface 87 (.agg #[.int .i64 y.v.weight, .slice y.T y.v.nodes.length y.t])] 102)).alloc (.cells #[.int .i64 y.v.weight, .int .i64 0, .slice (some ⟨W4.heap.size, 0, none⟩) 1 1] 83)
          have kA := (ks.alloc (.cells #[.iface 87 (.agg #[.int .i64 y.v.weight, .slice y.T y.v.nodes.length y.t])] 102)).alloc (.cells #[.int .i64 y.v.weight, .int .i64 0, .slice (some ⟨W4.heap.size, 0, none⟩) 1 1] 83)
          have kP := (Blk.new W4 #[.iface 87 (.agg #[.int .i64 y.v.weight, .slice y.T y.v.nodes.length y.t])] 102).alloc (.cells #[.int .i64 y.v.weight, .int .i64 0, .slice (some ⟨W4.heap.size, 0, none⟩) 1 1] 83)
          have hsp := (Blk.new W4 #[.iface 87 (.agg #[.int .i64 y.v.weight, .slice y.T y.v.nodes.length y.t])] 102).lt
          have HFx : Hid (FlatX 1 partC ((W4.alloc (.cells #[.iface 87 (.agg #[.int .i64 y.v.weight, .slice y.T y.v.nodes.length y.t])] 102)).alloc (.cells #[.int .i64 y.v.weight, .int .i64 0, .slice (some ⟨W4.heap.size, 0, none⟩) 1 1] 83)) W6.heap.size (Value.slice A2 (cl.length + i) c2).ownBlock (some ⟨W4.heap.size, 0, none⟩) [.tre y]) := Lib.hid (fun k hk => by
            obtain rfl : k = 0 := by simpa using hk
            refine ⟨_, _, rfl, by omega, by simp; omega, fun e => ?_, fun j hj => ?_⟩
            · have := (hS4.lt _ e.symm).2; omega
            · obtain rfl : j = 0 := by omega
              exact kP.cell 0)
          have HBa := Lib.hid ((HB3.alloc (by omega) (.cells #[.iface 87 (.agg #[.int .i64 y.v.weight, .slice y.T y.v.nodes.length y.t])] 102)).alloc (by omega) (.cells #[.int .i64 y.v.weight, .int .i64 0, .slice (some ⟨W4.heap.size, 0, none⟩) 1 1] 83))
          clear hS4 ks kP HB3 kn
          go_wp2_with (at_builtin; refine wpList_append_own_at _ rfl _ _ 64 rfl W6.heap.size 83 i0 _ 3 40 Tryz.underlying64 hi0 hz0 hz1 hz2 rfl (by decide) _ _ _ rfl hSa.2.1 ⟨W4.heap.size + 1, 0, none⟩ 1 1 [.int .i64 y.v.weight, .int .i64 0, .slice (some ⟨W4.heap.size, 0, none⟩) 1 1] (by first | rfl | simp) rfl (sh_new2 (W4.alloc (.cells #[.iface 87 (.agg #[.int .i64 y.v.weight, .slice y.T y.v.nodes.length y.t])] 102)) (W4.heap.size + 1) (by simp) _ _ _ _) (by simp [Value.oneCell']) (by unfold maxLen; omega) (by omega) (by simp; omega) ?_; intro v8 w8 hown8 hg8 _ ho8; obtain ⟨A3, c3, rfl⟩ := own_slice hown8; have k8 := kA.grown hg8 (fun e => by have := (hSa.lt _ e.symm).1; omega); have k8c := k8.cell; have z8 := k8.free 4)
          have hpush := ShInv.push (z := (⟨y.v.weight, 0, [.tre y], some ⟨W4.heap.size, 0, none⟩, 1⟩ : ShD)) hSa HFx.out hown8 hg8 ho8
          have hsz8 := hg8.size
          have hB8 := HBa.out.grown hg8 (by rw [World.size_alloc]; omega) (fun k e => by have := (hSa.lt k e).1; omega)
          have HF : Hid (Blk (w8.setCell ⟨gm, 4, none⟩ (.slice A3 (cl.length + i + 1) c3)) gm #[.int .i64 traits, .slice C cl.length c, .slice (some ⟨b, off, none⟩) tl.length t, .int .i64 need, .slice A3 (cl.length + i + 1) c3] 66 ∧ (sh ++ [(⟨y.v.weight, 0, [.tre y], some ⟨W4.heap.size, 0, none⟩, 1⟩ : ShD)]).map ShD.core = cl.map crdCore ++ (tl.take (i + 1)).map treCore ∧ ShInv (w8.setCell ⟨gm, 4, none⟩ (.slice A3 (cl.length + i + 1) c3)) W6.heap.size A3 c3 (cl.length + i + 1) (sh ++ [(⟨y.v.weight, 0, [.tre y], some ⟨W4.heap.size, 0, none⟩, 1⟩ : ShD)]) ∧ Below W2.heap.size W2 (w8.setCell ⟨gm, 4, none⟩ (.slice A3 (cl.length + i + 1) c3)) ∧ W6.heap.size ≤ (w8.setCell ⟨gm, 4, none⟩ (.slice A3 (cl.length + i + 1) c3)).heap.size) := Lib.hid ⟨mod_put k8, HT1.out _ rfl, hpush.setCell (p := ⟨gm, 4, none⟩) hgm _, hB8.setCell (p := ⟨gm, 4, none⟩) h5s _, by rw [World.size_alloc] at hsz8; simp; omega⟩
          go_roundw
          case rel => exact ⟨i + 1, A3, c3, _, by omega, by go_num, Lib.hid HF.out.1, Lib.hid HF.out.2⟩
          case measure => simp [vInt]; omega
        · have hil : ¬ (i : Int) < (tl.length : Int) := by omega
          obtain rfl : i = tl.length := by omega
          have kmc := kr2.cell
          have krr := kr.below hB (by omega)
          have krf := krr.free
          have krc := krr.cell
          have z0 := krf 0
          have z1 := krf 1
          have z2 := krf 2
          have z3 := krf 3
          have z4 := krf 4
          have hgw : gm ≠ w.heap.size + 1 := by omega
          rw [List.take_length] at hCo
          have HCo := Lib.hid hCo
          have HSh := Lib.hid hSh
          have HB1 := Lib.hid hB
          clear hR hCo hSh hB HK
          go_wp2_with fail
          have hrc := (nod_put (c0 := .int .i64 traits) (c1 := .slice C cl.length c) (c2 := .slice T tl.length t) (c3 := .int .i64 need) (c4 := .slice A2 (cl.length + tl.length) c2) krr).cell
          have hbe := ((((((b2.trans (HB1.out.mono b2s)).setCell (p := ⟨w.heap.size + 1, 0, none⟩) (by simp) (.int .i64 traits)).setCell (p := ⟨w.heap.size + 1, 1, none⟩) (by simp) (.slice C cl.length c)).setCell (p := ⟨w.heap.size + 1, 2, none⟩) (by simp) (.slice T tl.length t)).setCell (p := ⟨w.heap.size + 1, 3, none⟩) (by simp) (.int .i64 need)).setCell (p := ⟨w.heap.size + 1, 4, none⟩) (by simp) (.slice A2 (cl.length + tl.length) c2))
          have hse := (((((HSh.out.setCell (p := ⟨w.heap.size + 1, 0, none⟩) (by show w.heap.size + 1 < W6.heap.size; omega) (.int .i64 traits)).setCell (p := ⟨w.heap.size + 1, 1, none⟩) (by show w.heap.size + 1 < W6.heap.size; omega) (.slice C cl.length c)).setCell (p := ⟨w.heap.size + 1, 2, none⟩) (by show w.heap.size + 1 < W6.heap.size; omega) (.slice T tl.length t)).setCell (p := ⟨w.heap.size + 1, 3, none⟩) (by show w.heap.size + 1 < W6.heap.size; omega) (.int .i64 need)).setCell (p := ⟨w.heap.size + 1, 4, none⟩) (by show w.heap.size + 1 < W6.heap.size; omega) (.slice A2 (cl.length + tl.length) c2))
          exact bodyPost_ret (v := .tuple #[.agg #[.int .i64 traits, .slice C cl.length c, .slice T tl.length t, .int .i64 need, .slice A2 (cl.length + tl.length) c2], .int .i64 0]) (by simp [results, Tryz.results22, go_sem, hrc]) rfl ⟨A2, c2, sh, rfl, HCo.out, hse.less (by omega), hbe⟩
end Go.Proofs.YtpahcbhikmfamaaGreat
