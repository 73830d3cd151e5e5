/- ScoreInside: the law returns true for any model and spans, and numbers. Written by a program. -/
import Derived.Test.YtkimojiakabbcaaGreatWP1

namespace Go.Proofs.YtkimojiakabbcaaGreat
open Go.RowKit Go.Maps

/-- What the law asks of the answers. -/
def InsF (M : Mdl) (x : List Spn) : Prop := ∀ (ys : List Int) (zs : List Spn), ys.length = x.length → zs.length = x.length → (∀ k, k < x.length → (x.getD k default).lo ≤ (zs.getD k default).lo ∧ (zs.getD k default).lo ≤ ys.getD k 0 ∧ ys.getD k 0 ≤ (zs.getD k default).hi ∧ (zs.getD k default).hi ≤ (x.getD k default).hi) →
  betE M x = 0 ∧ betE M zs = 0 ∧ betE M (justS ys) = 0 ∧ forE M ys = 0 ∧ (betV M x).lo ≤ (betV M zs).lo ∧ (betV M zs).lo ≤ scN M ys ∧ scN M ys ≤ (betV M zs).hi ∧ (betV M zs).hi ≤ (betV M x).hi ∧ betV M (justS ys) = ⟨scN M ys, scN M ys⟩
/-- Three rows of the loop: what is so, what is known better, what is known exactly. -/
structure InI (lo0 : Nat) (W : World) (i : Nat) (x : List Spn) (A : Option Addr) (a : Nat) (ys : List Int) (B : Option Addr) (b : Nat) (zs : List Spn) (E : Option Addr) (e : Nat) : Prop where
  la : ys.length = i
  lb : zs.length = i
  oa : W.ownsRow lo0 3 1 (.slice A i a) i (ys.flatMap intC)
  ob : W.ownsRow lo0 43 2 (.slice B i b) i (zs.flatMap spnC)
  oe : W.ownsRow lo0 43 2 (.slice E i e) i ((justS ys).flatMap spnC)
  ab : ∀ g, (Value.slice A i a).ownBlock = some g → (Value.slice B i b).ownBlock ≠ some g
  ae : ∀ g, (Value.slice A i a).ownBlock = some g → (Value.slice E i e).ownBlock ≠ some g
  be : ∀ g, (Value.slice B i b).ownBlock = some g → (Value.slice E i e).ownBlock ≠ some g
  rel : ∀ k, k < i → (x.getD k default).lo ≤ (zs.getD k default).lo ∧ (zs.getD k default).lo ≤ ys.getD k 0 ∧ ys.getD k 0 ≤ (zs.getD k default).hi ∧ (zs.getD k default).hi ≤ (x.getD k default).hi
theorem ys_len {lo0 : Nat} {W : World} {i : Nat} {x : List Spn} {A : Option Addr} {a : Nat} {ys : List Int} {B : Option Addr} {b : Nat} {zs : List Spn} {E : Option Addr} {e : Nat} (h : InI lo0 W i x A a ys B b zs E e) : ys.length = i ∧ zs.length = i := ⟨h.la, h.lb⟩
theorem own_beside {w w' : World} {base : Nat} {e : TypeId} {size n : Nat} {v u : Value} {xs : List Value} (h : w.ownsRow base e size v n xs) (hg : w.grownBy w' u.ownBlock) (hne : ∀ g, u.ownBlock = some g → v.ownBlock ≠ some g) : w'.ownsRow base e size v n xs := by
  refine h.kept hg ?_
  cases hv : v.ownBlock with
  | none => exact .inl rfl
  | some g => exact .inr fun e => hne g e.symm hv
theorem dis_flip {u v : Value} (h : ∀ g, u.ownBlock = some g → v.ownBlock ≠ some g) : ∀ g, v.ownBlock = some g → u.ownBlock ≠ some g := fun g h1 h2 => h g h2 h1
theorem dis_new {u' u v : Value} {s : Nat} (h : ∀ g, u.ownBlock = some g → v.ownBlock ≠ some g) (hb : u'.ownBlock = u.ownBlock ∨ u'.ownBlock = some s) (hs : ∀ g, v.ownBlock = some g → g < s) : ∀ g, u'.ownBlock = some g → v.ownBlock ≠ some g := fun g h1 h2 => by
  rcases hb with e | e
  · rw [e] at h1; exact h g h1 h2
  · rw [e] at h1
    have := hs g h2
    have := Option.some.inj h1
    omega
theorem own_lt {w W : World} {base : Nat} {e : TypeId} {size n : Nat} {v : Value} {xs : List Value} (h : w.ownsRow base e size v n xs) (hs : w.heap.size ≤ W.heap.size) : ∀ g, v.ownBlock = some g → g < W.heap.size := fun g hg => by have := (h.lt g hg).2; omega
theorem back_off {y lo d : Int} (h0 : 0 ≤ lo) (h1 : y ≤ 1000000) (h2 : 0 ≤ d) (h3 : d ≤ y - lo) : IntKind.i64.wrap (y - d) = y - d := IntWalk.i64_in _ (by omega)
theorem getD_app {α : Type} (l : List α) (y d : α) (k : Nat) : (l ++ [y]).getD k d = if k < l.length then l.getD k d else if k = l.length then y else d := by
  rcases Nat.lt_trichotomy k l.length with h | h | h
  · rw [if_pos h, List.getD_eq_getElem?_getD, List.getElem?_append_left h, List.getD_eq_getElem?_getD]
  · subst h; simp
  · rw [if_neg (by omega), if_neg (by omega), List.getD_eq_getElem?_getD, List.getElem?_eq_none (by simp; omega)]; rfl
theorem just_app (ys : List Int) (y : Int) : justS (ys ++ [y]) = justS ys ++ [⟨y, y⟩] := by unfold justS; simp
theorem int_newW (W : World) (x : Value) (t : TypeId) : ∀ ad, (some ⟨W.heap.size, 0, none⟩ : Option Addr) = some ad → ∀ j u, [x][j]? = some u → (W.alloc (.cells #[x] t)).cell? (ad.add j) = some u := fun ad e j u hj => by
  cases e
  rw [WideShapes.add_plain, Nat.zero_add]
  refine ((Blk.new W #[x] t).cell j).trans ?_
  rw [← hj]; simp
theorem spn_new (W : World) (x y : Value) (t : TypeId) : ∀ ad, (some ⟨W.heap.size, 0, none⟩ : Option Addr) = some ad → ∀ j u, [x, y][j]? = some u → (W.alloc (.cells #[x, y] t)).cell? (ad.add j) = some u := fun ad e j u hj => by
  cases e
  exact two_new W x y t j u hj

set_option maxRecDepth 100000 in
set_option maxHeartbeats 8000000 in
theorem scoreInside_any (traits need : Int) (cl : List CrdD) (tl : List TreD) (C T : Option Addr) (c t : Nat) (x : List Spn) (X : Option Addr) (xc : Nat) (l : List Int) (L : Option Addr) (lc : Nat) (w : World) (h : MdlAt w w.heap.size ⟨traits, cl, C, c, tl, T, t, need⟩) (hx : SpnsAt w w.heap.size X x) (hxm : x.length ≤ maxLen) (hl : U32At w w.heap.size L l) (hlm : l.length ≤ maxLen) (hlb : ∀ z ∈ l, 0 ≤ z ∧ z < 4294967296)
    (HAL : ∀ (W : World), Calls Tryz.prog 11 #[] W fun e w' => e = .returned (.bool true) ∧ Below W.heap.size W w')
    (HSP : ∀ (lo hi : Int) (W : World), Calls Tryz.prog 18 #[.int .i64 lo, .int .i64 hi] W fun e w' => e = .returned (.agg #[.int .i64 lo, .int .i64 hi]) ∧ Below W.heap.size W w')
    (HBP : ∀ (W : World) (X1 : Option Addr) (x1 : Nat) (sp : List Spn), MdlAt W W.heap.size ⟨traits, cl, C, c, tl, T, t, need⟩ → MdlLe ⟨traits, cl, C, c, tl, T, t, need⟩ → SpnsAt W W.heap.size X1 sp → sp.length ≤ 10 → Calls Tryz.prog 17 #[.agg #[.int .i64 traits, .slice C cl.length c, .slice T tl.length t, .int .i64 need], .slice X1 sp.length x1] W fun e w' => e = .returned (.tuple #[.agg #[.int .i64 (betV ⟨traits, cl.map CrdD.v, tl.map TreD.v, need⟩ sp).lo, .int .i64 (betV ⟨traits, cl.map CrdD.v, tl.map TreD.v, need⟩ sp).hi], .int .i64 (betE ⟨traits, cl.map CrdD.v, tl.map TreD.v, need⟩ sp)]) ∧ Below W.heap.size W w')
    (HSC : ∀ (W : World) (Y1 : Option Addr) (y1 : Nat) (ys : List Int), MdlAt W W.heap.size ⟨traits, cl, C, c, tl, T, t, need⟩ → MdlLe ⟨traits, cl, C, c, tl, T, t, need⟩ → IntsAt W W.heap.size Y1 ys → ys.length ≤ 10 → Calls Tryz.prog 12 #[.agg #[.int .i64 traits, .slice C cl.length c, .slice T tl.length t, .int .i64 need], .slice Y1 ys.length y1] W fun e w' => e = .returned (.tuple #[.int .i64 (scN ⟨traits, cl.map CrdD.v, tl.map TreD.v, need⟩ ys), .bool (scY ⟨traits, cl.map CrdD.v, tl.map TreD.v, need⟩ ys), .int .i64 (forE ⟨traits, cl.map CrdD.v, tl.map TreD.v, need⟩ ys)]) ∧ Below W.heap.size W w')
    (HPT : mdlB ⟨traits, cl.map CrdD.v, tl.map TreD.v, need⟩ = true → spnsB traits x = true → InsF ⟨traits, cl.map CrdD.v, tl.map TreD.v, need⟩ x) :
    Calls Tryz.prog 8 #[.agg #[.int .i64 traits, .slice C cl.length c, .slice T tl.length t, .int .i64 need], .slice X x.length xc, .slice L l.length lc] w fun e w' => e = .returned (.bool true) ∧ Below w.heap.size w w' := by
  have b1 := (Below.refl w.heap.size w).alloc (Nat.le_refl _) (.cells #[.int .i64 traits, .slice C cl.length c, .slice T tl.length t, .int .i64 need] 29)
  have k1 := Blk.new w #[.int .i64 traits, .slice C cl.length c, .slice T tl.length t, .int .i64 need] 29
  have HGr := Lib.hid (fun W hb => great6_all traits need cl tl C T c t W (h.later hb))
  have HAl := Lib.hid HAL
  have HSp := Lib.hid HSP
  have q1 := k1.lt
  have k1c := k1.cell
  have hxm1 : IntKind.i64.wrap (x.length : Int) = (x.length : Int) := by unfold maxLen at hxm; exact IntWalk.i64_in _ (by omega)
  clear HAL HSP
  cases hg : mdlLeB ⟨traits, cl, C, c, tl, T, t, need⟩ with
  | false =>
    rw [hg] at HGr
    clear h hx HBP HSC hl HPT hg
    go_enter Tryz.func8, Tryz.ntmps8
    go_wp2_with (first
      | (go_at_call 11; (with_reducible refine (HAl.out _).mono ?_); rintro e w1 ⟨rfl, h1⟩; have b2 := b1.trans (h1.mono b1.size); have k2c := (k1.below h1 q1).cell)
      | (go_at_call 20; (with_reducible refine (HGr.out _ b2).mono ?_); rintro e w2 ⟨rfl, h2⟩))
    go_ret
    exact ⟨rfl, b2.trans (h2.mono b2.size)⟩
  | true =>
    rw [hg] at HGr
    have hls := mdlLe_of hg
    have HCk := Lib.hid (fun W hb => check6_all traits need cl tl C T c t W (h.later hb) hls)
    clear hg
    by_cases hM : mdlB ⟨traits, cl.map CrdD.v, tl.map TreD.v, need⟩ = true
    rotate_left
    · have hE : mdlE ⟨traits, cl.map CrdD.v, tl.map TreD.v, need⟩ = 60 := by unfold mdlE; exact if_neg hM
      rw [hE] at HCk
      clear h hx HBP HSC hl HPT hls hM hE
      go_enter Tryz.func8, Tryz.ntmps8
      go_wp2_with (first
        | (go_at_call 11; (with_reducible refine (HAl.out _).mono ?_); rintro e w1 ⟨rfl, h1⟩; have b2 := b1.trans (h1.mono b1.size); have k2 := k1.below h1 q1; have k2c := k2.cell)
        | (go_at_call 20; (with_reducible refine (HGr.out _ b2).mono ?_); rintro e w2 ⟨rfl, h2⟩; have b3 := b2.trans (h2.mono b2.size); have k3 := k2.below h2 k2.lt; have k3c := k3.cell)
        | (go_at_call 27; (with_reducible refine (HCk.out _ b3).mono ?_); rintro e w4 ⟨rfl, h4⟩))
      go_ret
      exact ⟨rfl, b3.trans (h4.mono b3.size)⟩
    have hE : mdlE ⟨traits, cl.map CrdD.v, tl.map TreD.v, need⟩ = 0 := by unfold mdlE; exact if_pos hM
    rw [hE] at HCk
    clear hE
    by_cases hlt : (x.length : Int) = traits
    rotate_left
    · have hl0 : ((x.length : Int) != traits) = true := by simpa using hlt
      clear h hx HBP HSC hl HPT hls hM
      go_enter Tryz.func8, Tryz.ntmps8
      go_wp2_with (first
        | (go_at_call 11; (with_reducible refine (HAl.out _).mono ?_); rintro e w1 ⟨rfl, h1⟩; have b2 := b1.trans (h1.mono b1.size); have k2 := k1.below h1 q1; have k2c := k2.cell)
        | (go_at_call 20; (with_reducible refine (HGr.out _ b2).mono ?_); rintro e w2 ⟨rfl, h2⟩; have b3 := b2.trans (h2.mono b2.size); have k3 := k2.below h2 k2.lt; have k3c := k3.cell)
        | (go_at_call 27; (with_reducible refine (HCk.out _ b3).mono ?_); rintro e w4 ⟨rfl, h4⟩; have k4c := (k3.below h4 k3.lt).cell))
      go_ret
      exact ⟨rfl, b3.trans (h4.mono b3.size)⟩
    have hl0 : ((x.length : Int) != traits) = false := by simpa using hlt
    have htr := (mdlB_parts hM).1
    have hx1 : 1 ≤ x.length := by dsimp only at htr; omega
    have hx5 : x.length ≤ 5 := by dsimp only at htr; omega
    have HM := Lib.hid hM
    have HP := Lib.hid (HPT hM)
    have Hh := Lib.hid (fun W (hb : Below w.heap.size w W) => h.later hb)
    have Hx := Lib.hid (fun W (hb : Below w.heap.size w W) => hx.later hb)
    have Hbp := Lib.hid (fun W X1 x1 sp hb => HBP W X1 x1 sp (h.later hb) hls)
    have Hsc := Lib.hid (fun W Y1 y1 ys hb => HSC W Y1 y1 ys (h.later hb) hls)
    have Hl := Lib.hid (fun W (hb : Below w.heap.size w W) => hl.later hb)
    have Hlb := Lib.hid hlb
    have Hlm := Lib.hid hlm
    have HT := Lib.hid hlt
    clear h hx HBP HPT hls hM htr hlt HSC hl hlb hlm
    go_enter Tryz.func8, Tryz.ntmps8
    go_wp2_with (first
      | (go_at_call 11; (with_reducible refine (HAl.out _).mono ?_); rintro e w1 ⟨rfl, h1⟩; have b2 := b1.trans (h1.mono b1.size); have k2 := k1.below h1 q1; have k2c := k2.cell)
      | (go_at_call 20; (with_reducible refine (HGr.out _ b2).mono ?_); rintro e w2 ⟨rfl, h2⟩; have b3 := b2.trans (h2.mono b2.size); have k3 := k2.below h2 k2.lt; have k3c := k3.cell)
      | (go_at_call 27; (with_reducible refine (HCk.out _ b3).mono ?_); rintro e w4 ⟨rfl, h4⟩; have b4 := b3.trans (h4.mono b3.size); have k4 := k3.below h4 k3.lt; have k4c := k4.cell))
    clear k1c k2c k3c k1 k2 k3 h1 h2 h4 b1 b2 b3 HGr HCk HAl
    have HB4 := Lib.hid b4
    have HK4 := Lib.hid k4
    clear b4 k4 k4c
    obtain ⟨i4, hi4, hz0, hz1, hz2⟩ := info_parts spanInfoR
    obtain ⟨i0, hi0, hy0, hy1, hy2⟩ := info_parts intInfo
    go_loopw [8, 9, 10, 43] (fun aa bb ee ii wr => ∃ (i : Nat) (A B E : Option Addr) (a b e : Nat), i ≤ x.length ∧ aa = .slice A i a ∧ bb = .slice B i b ∧ ee = .slice E i e ∧ ii = .int .i64 i ∧ Hid (∃ ys zs, InI w4.heap.size wr i x A a ys B b zs E e ∧ (∀ k, k < i → spnB (x.getD k default) = true) ∧ Below w4.heap.size w4 wr)) (fun _ _ _ ii _ => x.length - (vInt ii).toNat)
    case atStart => exact ⟨0, none, none, none, 0, 0, 0, Nat.zero_le _, rfl, rfl, rfl, rfl, Lib.hid ⟨[], [], ⟨rfl, rfl, World.ownsRow_nil _ _ _ _, World.ownsRow_nil _ _ _ _, World.ownsRow_nil _ _ _ _, (fun g hg => by cases hg), (fun g hg => by cases hg), (fun g hg => by cases hg), (fun k hk => by omega)⟩, fun k hk => by omega, Below.refl _ _⟩⟩
    case round =>
      obtain ⟨i, A, B, E, a, bq, e, hi, rfl, rfl, rfl, rfl, hR⟩ := hrel
      obtain ⟨ys, zs, HI0, hS, hB⟩ := hR.out
      have HI := Lib.hid HI0
      clear HI0 hR
      have b5 := HB4.out.trans (hB.mono HB4.out.size)
      by_cases hlt : i < x.length
      · have hil : (i : Int) < (x.length : Int) := by omega
        obtain ⟨b, off, rfl, hb, hc⟩ := (Hx.out _ b5) i hlt
        have c0 : wr.cell? ⟨b, off + i * 2, none⟩ = some (.int .i64 x[i].lo) := by have := hc 0 (by omega); simpa [spnC] using this
        have c1 : wr.cell? ⟨b, off + i * 2 + 1, none⟩ = some (.int .i64 x[i].hi) := by have := hc 1 (by omega); simpa [spnC] using this
        have hgd : x.getD i default = x[i] := getD_lt _ _ hlt
        have kn0 := (Blk.new wr #[.int .i64 x[i].lo, .int .i64 x[i].hi] 43)
        have kn := kn0.cell
        have b6 := b5.alloc b5.size (.cells #[.int .i64 x[i].lo, .int .i64 x[i].hi] 43)
        have b7 := hB.alloc hB.size (.cells #[.int .i64 x[i].lo, .int .i64 x[i].hi] 43)
        cases hv : spnB x[i] with
        | false =>
          have hq := spnB_no hv
          clear hc hgd hv hS HI kn0
          generalize x[i].lo = lo at *
          generalize x[i].hi = hi at *
          rcases hq with hq | ⟨hq, hq2⟩ | ⟨hq, hq2, hq3⟩
          · go_wp2_with fail
            go_ret
            exact ⟨rfl, b6⟩
          · go_wp2_with fail
            go_ret
            exact ⟨rfl, b6⟩
          · go_wp2_with fail
            go_ret
            exact ⟨rfl, b6⟩
        | true =>
          have HJ : Hid (∀ k, k < i + 1 → spnB (x.getD k default) = true) := Lib.hid (fun k hk => by
            rcases Nat.lt_or_ge k i with h9 | h9
            · exact hS k h9
            · obtain rfl : k = i := by omega
              rw [hgd]; exact hv)
          have hq := spnB_yes hv
          have hq1 : ¬ x[i].lo < 0 := by omega
          have hq2 : ¬ x[i].hi < x[i].lo := by omega
          have hq3 : ¬ 1000000 < x[i].hi := by omega
          obtain ⟨d, hd⟩ := cutFit hq.1 hq.2.1 hq.2.2 (atL_bd Hlb.out (3 * (i : Int)))
          have HGD : Hid (x.getD i default = ⟨x[i].lo, x[i].hi⟩) := Lib.hid hgd
          clear hc hgd hv hS
          generalize x[i].lo = lo at *
          generalize x[i].hi = hi at *
          have hoi := HI.out.oa
          have hob := HI.out.ob
          have hoe := HI.out.oe
          have g1 := kn0.lt
          have ba := (Below.refl wr.heap.size wr).alloc (Nat.le_refl _) (.cells #[.int .i64 lo, .int .i64 hi] 43)
          replace hoi := own_below hoi ba
          replace hob := own_below hob ba
          replace hoe := own_below hoe ba
          go_upto_region 13 with fail
          generalize hWa : wr.alloc (.cells #[.int .i64 lo, .int .i64 hi] 43) = wa at *
          clear hWa c0 c1
          have gl : wr.heap.size < wa.heap.size := g1
          have hlA : ∀ g, (Value.slice A i a).ownBlock = some g → g < wr.heap.size := fun g hg => (HI.out.oa.lt g hg).2
          have hlB : ∀ g, (Value.slice B i bq).ownBlock = some g → g < wr.heap.size := fun g hg => (HI.out.ob.lt g hg).2
          have hlE : ∀ g, (Value.slice E i e).ownBlock = some g → g < wr.heap.size := fun g hg => (HI.out.oe.lt g hg).2
          generalize wr.heap.size = gs at *
          have hm0 : IntKind.i64.wrap (3 * (i : Int)) = 3 * (i : Int) := IntWalk.i64_in _ (by omega)
          have hm1 : IntKind.i64.wrap (3 * (i : Int) + 1) = 3 * (i : Int) + 1 := IntWalk.i64_in _ (by omega)
          have hm2 : IntKind.i64.wrap (3 * (i : Int) + 2) = 3 * (i : Int) + 2 := IntWalk.i64_in _ (by omega)
          have HA0 := Lib.hid (fun W (hb : Below w.heap.size w W) => at6_any l L lc (3 * (i : Int)) W (Hl.out W hb) Hlm.out (by omega) (by omega))
          have HA1 := Lib.hid (fun W (hb : Below w.heap.size w W) => at6_any l L lc (3 * (i : Int) + 1) W (Hl.out W hb) Hlm.out (by omega) (by omega))
          have HA2 := Lib.hid (fun W (hb : Below w.heap.size w W) => at6_any l L lc (3 * (i : Int) + 2) W (Hl.out W hb) Hlm.out (by omega) (by omega))
          have hd1 := atL_bd Hlb.out (3 * (i : Int) + 1)
          have hd2 := atL_bd Hlb.out (3 * (i : Int) + 2)
          generalize atL l (3 * (i : Int)) = a0 at *
          generalize atL l (3 * (i : Int) + 1) = a1 at *
          generalize atL l (3 * (i : Int) + 2) = a2 at *
          obtain ⟨e1, e2, e3, e4, e5, e6, e7, e8, e9, e10, e11⟩ := hd
          obtain ⟨y, hy⟩ : ∃ y, y = lo + d := ⟨_, rfl⟩
          rw [← hy] at e8 e9
          have hylo : lo ≤ y := by omega
          have hyhi : y ≤ hi := by omega
          have hylm : y ≤ 1000000 := by omega
          have HAt0 := Lib.hid (HA0.out wa.drew b6.drew)
          have hy' := hy.symm
          clear hy
          refine wp_region_still_lit (by kernel_rfl) (by kernel_rfl) ?_
          repeat still_step
          still_call (HAt0.out)
          repeat still_step
          refine wpStill_nil ?_
          change Exit.then _ _ _ _ wa.drew
          have hoA := own_drew hoi
          have hoB := own_drew hob
          have hoE := own_drew hoe
          have knd : Blk wa.drew gs #[.int .i64 lo, .int .i64 hi] 43 := kn0.drew
          have bd := b6.drew
          have bd4 := b7.drew
          have gd : gs < wa.drew.heap.size := gl
          clear HA0 HAt0 hoi hob hoe kn0 kn b6 b7 gl g1 ba
          generalize hWd : wa.drew = wb at *
          clear hWd
          have E1 := bd4.alloc bd4.size (.cells #[.int .i64 y] 3)
          have hoA1 := own_below hoA ((Below.refl wb.heap.size wb).alloc (Nat.le_refl _) (.cells #[.int .i64 y] 3))
          have hoB1 := own_below hoB ((Below.refl wb.heap.size wb).alloc (Nat.le_refl _) (.cells #[.int .i64 y] 3))
          have hoE1 := own_below hoE ((Below.refl wb.heap.size wb).alloc (Nat.le_refl _) (.cells #[.int .i64 y] 3))
          have hlen := ys_len HI.out
          go_upto_region 15 with (at_builtin; refine wpList_append_src _ rfl (.tmp 79) (.tmp 81) 31 rfl w4.heap.size 3 i0 _ 1 8 Tryz.underlying31 hi0 hy0 hy1 hy2 rfl (by decide) _ i (ys.flatMap intC) rfl hoA1 (some ⟨wb.heap.size, 0, none⟩) 1 1 [.int .i64 y] rfl rfl (fun e => by cases e) (int_newW wb (.int .i64 y) 3) (intC_one y) (by unfold maxLen; omega) (by omega) E1.size ?_; intro v1 w5 hown1 hg1 hk1; obtain ⟨A1, aA, rfl⟩ := own_slice hown1)
          have b5d : Below w4.heap.size w4 w5 := E1.grown hg1 E1.size (fun k e => (hoA1.lt k e).1)
          have kn5 : Blk w5 gs #[.int .i64 lo, .int .i64 hi] 43 := (knd.alloc (.cells #[.int .i64 y] 3)).grown hg1 (fun e => by have := hlA gs e.symm; omega)
          have hoB5 := own_beside hoB1 hg1 HI.out.ab
          have hoE5 := own_beside hoE1 hg1 HI.out.ae
          have hab5 := dis_new HI.out.ab hk1 (fun g hg => (hoB1.lt g hg).2)
          have hae5 := dis_new HI.out.ae hk1 (fun g hg => (hoE1.lt g hg).2)
          have hs5 : gs < w5.heap.size := kn5.lt
          clear hoA1 hoB1 hoE1 E1 hg1 hk1 hoA hoB hoE knd bd bd4 gd
          have kn5c := kn5.cell
          have bw5 : Below w.heap.size w w5.drew := (HB4.out.trans (b5d.mono HB4.out.size)).drew
          have HAt1 := Lib.hid (HA1.out w5.drew bw5)
          have HAt2 := Lib.hid (HA2.out w5.drew bw5)
          obtain ⟨dz1, hz1'⟩ := cutFit (lo := lo) (hi := y) (by omega) hylo hylm hd1
          obtain ⟨dz2, hz2'⟩ := cutFit (lo := y) (hi := hi) (by omega) hyhi (by omega) hd2
          have hwb := back_off (lo := lo) (y := y) (d := dz1) (by omega) hylm hz1'.d0 hz1'.d1
          obtain ⟨f1, f2, f3, f4, f5, f6, f7, f8, f9, f10, f11⟩ := hz1'
          obtain ⟨t1, t2, t3, t4, t5, t6, t7, t8, t9, t10, t11⟩ := hz2'
          have HZR : Hid (lo ≤ y - dz1 ∧ y - dz1 ≤ y ∧ y ≤ y + dz2 ∧ y + dz2 ≤ hi) := Lib.hid (by omega)
          have kc5 := kn5.cell
          have kc5d : ∀ i, w5.drew.cell? ⟨gs, i, none⟩ = (#[.int .i64 lo, .int .i64 hi] : Array Value)[i]? := kn5.drew.cell
          have dd0 : Below w5.heap.size w5 w5.drew := (Below.refl _ _).drew
          have HoA5 := Lib.hid hown1
          have HoB5 := Lib.hid hoB5
          have HoE5 := Lib.hid hoE5
          have Hdis := Lib.hid (And.intro hab5 (And.intro hae5 HI.out.be))
          have Hb5d := Lib.hid b5d
          have Hkn5 := Lib.hid kn5
          have hs4 : w4.heap.size ≤ w5.heap.size := b5d.size
          clear hown1 hoB5 hoE5 hab5 hae5 b5d kn5 hd1 hd2 hlen
          go_cut [9] (fun s9 wx => ∃ (B1 : Option Addr) (aB : Nat), s9 = .slice B1 (i + 1) aB ∧ Hid (wx.ownsRow w4.heap.size 43 2 (.slice B1 (i + 1) aB) (i + 1) (zs.flatMap spnC ++ [.int .i64 (y - dz1), .int .i64 (y + dz2)]) ∧ wx.ownsRow w4.heap.size 3 1 (.slice A1 (i + 1) aA) (i + 1) (ys.flatMap intC ++ [.int .i64 y]) ∧ wx.ownsRow w4.heap.size 43 2 (.slice E i e) i ((justS ys).flatMap spnC) ∧ (∀ g, (Value.slice A1 (i + 1) aA).ownBlock = some g → (Value.slice B1 (i + 1) aB).ownBlock ≠ some g) ∧ (∀ g, (Value.slice B1 (i + 1) aB).ownBlock = some g → (Value.slice E i e).ownBlock ≠ some g) ∧ Below w4.heap.size w4 wx))
          case first =>
            go_region_held3 (fun W => (∀ i, W.cell? ⟨gs, i, none⟩ = (#[.int .i64 lo, .int .i64 hi] : Array Value)[i]?)) ((with_reducible assumption))
              (first
                | (go_at_call 26; (with_reducible refine (HAt1.out).mono ?_); rintro e wz ⟨rfl, rfl⟩)
                | (go_at_call 26; (with_reducible refine (HAt2.out).mono ?_); rintro e wz ⟨rfl, rfl⟩)
                | (go_at_call 18; (with_reducible refine (HSp.out (y - dz1) (y + dz2) _).mono ?_); rintro e w6 ⟨rfl, h6⟩; have d6 : Below w5.heap.size w5 w6 := dd0.trans (h6.mono dd0.size); have hs6 := d6.size; have d6a := d6.alloc d6.size (.cells #[.int .i64 (y - dz1), .int .i64 (y + dz2)] 43); have oB6 := own_below HoB5.out d6a; have oA6 := own_below HoA5.out d6a; have oE6 := own_below HoE5.out d6a; have kk6 := Hkn5.out.below d6 hs5; have kk6c := kk6.cell; have kk6a := kk6.alloc (.cells #[.int .i64 (y - dz1), .int .i64 (y + dz2)] 43); have kk6ac := kk6a.cell)
                | (refine step_append_src (by rfl) _ _ _ (by rfl) w4.heap.size 43 i4 _ 2 16 Tryz.underlying47 hi4 hz0 hz1 hz2 rfl (by decide) _ i (zs.flatMap spnC) (by rfl) oB6 (some ⟨w6.heap.size, 0, none⟩) 1 1 [.int .i64 (y - dz1), .int .i64 (y + dz2)] (by rfl) (by rfl) (fun e => by cases e) (spn_new w6 (.int .i64 (y - dz1)) (.int .i64 (y + dz2)) 43) (spnC_oneR ⟨y - dz1, y + dz2⟩) (by unfold maxLen; omega) (by omega) (by first | omega | (simp; omega)) ?_; intro v7 w7 hown7 hg7 hk7; obtain ⟨B1, aB, rfl⟩ := own_slice hown7; have kk7c := (kk6a.grown hg7 (fun e => by have := hlB gs e.symm; omega)).cell))
            all_goals first | (go_step; go_step; go_meet) | (go_step; go_meet) | go_meet
            all_goals exact ⟨B1, aB, rfl, Lib.hid ⟨hown7, own_beside oA6 hg7 (dis_flip Hdis.out.1), own_beside oE6 hg7 Hdis.out.2.2, dis_flip (dis_new (dis_flip Hdis.out.1) hk7 (fun g hg => (oA6.lt g hg).2)), dis_new Hdis.out.2.2 hk7 (fun g hg => (oE6.lt g hg).2), (Hb5d.out.trans (d6a.mono hs4)).grown hg7 (Nat.le_trans hs4 d6a.size) (fun k e => (oB6.lt k e).1)⟩⟩
          case rest =>
            obtain ⟨B1, aB, rfl, HH⟩ := hcut
            have hs7 := HH.out.2.2.2.2.2.size
            have hwI := HB4.out.size
            clear HoA5 HoB5 HoE5 Hb5d HAt1 HAt2 kc5 kc5d dd0 kn5c Hkn5 HA1 HA2 hs4 hs5
            generalize wc = w7 at *
            go_upto_region 17 with (first
              | (go_at_call 18; (with_reducible refine (HSp.out y y _).mono ?_); rintro e8 w8 ⟨rfl, h8⟩; have d8a := h8.alloc h8.size (.cells #[.int .i64 y, .int .i64 y] 43); have oB8 := own_below HH.out.1 d8a; have oA8 := own_below HH.out.2.1 d8a; have oE8 := own_below HH.out.2.2.1 d8a; have z8 := d8a.size)
              | (at_builtin; refine wpList_append_src _ rfl (.tmp 115) (.tmp 119) 47 rfl w4.heap.size 43 i4 _ 2 16 Tryz.underlying47 hi4 hz0 hz1 hz2 rfl (by decide) _ i ((justS ys).flatMap spnC) rfl oE8 (some ⟨w8.heap.size, 0, none⟩) 1 1 [.int .i64 y, .int .i64 y] rfl rfl (fun e => by cases e) (spn_new w8 (.int .i64 y) (.int .i64 y) 43) (spnC_oneR ⟨y, y⟩) (by unfold maxLen; omega) (by omega) (by omega) ?_; intro v9 w9 hown9 hg9 hk9; obtain ⟨E1, aE, rfl⟩ := own_slice hown9))
            have HZ := Lib.hid (show InI w4.heap.size w9 (i + 1) x A1 aA (ys ++ [y]) B1 aB (zs ++ [⟨y - dz1, y + dz2⟩]) E1 aE from
              ⟨by rw [List.length_append, HI.out.la]; rfl, by rw [List.length_append, HI.out.lb]; rfl,
                by rw [List.flatMap_append]; exact own_beside oA8 hg9 (dis_flip Hdis.out.2.1),
                by rw [List.flatMap_append]; exact own_beside oB8 hg9 (dis_flip HH.out.2.2.2.2.1),
                by rw [just_app, List.flatMap_append]; exact hown9,
                HH.out.2.2.2.1,
                dis_flip (dis_new (dis_flip Hdis.out.2.1) hk9 (fun g hg => (oA8.lt g hg).2)),
                dis_flip (dis_new (dis_flip HH.out.2.2.2.2.1) hk9 (fun g hg => (oB8.lt g hg).2)),
                fun k hk => by
                  rw [getD_app, getD_app, HI.out.la, HI.out.lb]
                  rcases Nat.lt_or_ge k i with h9 | h9
                  · rw [if_pos h9, if_pos h9]; exact HI.out.rel k h9
                  · obtain rfl : k = i := by omega
                    rw [if_neg (Nat.lt_irrefl _), if_neg (Nat.lt_irrefl _), if_pos rfl, if_pos rfl, HGD.out]
                    exact ⟨HZR.out.1, HZR.out.2.1, HZR.out.2.2.1, HZR.out.2.2.2⟩⟩)
            have HBB : Hid (Below w4.heap.size w4 w9) := Lib.hid ((HH.out.2.2.2.2.2.trans (d8a.mono hs7)).grown hg9 (Nat.le_trans hs7 z8) (fun k e => (oE8.lt k e).1))
            clear HH Hdis oA8 oB8 oE8 hown9 hg9 hk9 h8 d8a HI HGD
            go_wp2_with fail
            go_roundw
            case rel => exact ⟨i + 1, A1, B1, E1, aA, aB, aE, by omega, rfl, rfl, rfl, by go_num, Lib.hid ⟨_, _, HZ.out, HJ.out, HBB.out⟩⟩
            case measure => simp [vInt]; omega
      · have hil : ¬ (i : Int) < (x.length : Int) := by omega
        obtain rfl : i = x.length := by omega
        have hsp : spnsB traits x = true := by
          unfold spnsB
          simp only [Bool.and_eq_true, decide_eq_true_eq, List.all_eq_true]
          refine ⟨HT.out, fun s hs => ?_⟩
          obtain ⟨k, hk, rfl⟩ := List.mem_iff_getElem.1 hs
          have := hS k hk
          rw [getD_lt _ _ hk] at this
          exact this
        have HF := Lib.hid (HP.out hsp ys zs HI.out.la HI.out.lb HI.out.rel)
        have hla := HI.out.la
        have hlb := HI.out.lb
        have hlj : (justS ys).length = x.length := by unfold justS; rw [List.length_map]; exact hla
        have sA : IntsAt wr wr.heap.size A ys := Flat.of_own (c := a) intC_len (by decide) (by rw [hla]; exact HI.out.oa)
        have sB : SpnsAt wr wr.heap.size B zs := Flat.of_own (c := bq) spnC_len (by decide) (by rw [hlb]; exact HI.out.ob)
        have sE : SpnsAt wr wr.heap.size E (justS ys) := Flat.of_own (c := e) spnC_len (by decide) (by rw [hlj]; exact HI.out.oe)
        have k8 := HK4.out.below hB HK4.out.lt
        have HB8 := Lib.hid b5
        have Cs := Lib.hid (fun W (hb : Below wr.heap.size wr W) => by
          have h9 := Hsc.out W _ a ys (HB8.out.trans (hb.mono HB8.out.size)) (sA.later hb) (by omega)
          rw [HF.out.2.2.2.1, hla] at h9
          exact h9)
        have Ca := Lib.hid (fun W (hb : Below wr.heap.size wr W) => by
          have h9 := Hbp.out W _ xc x (HB8.out.trans (hb.mono HB8.out.size)) (Hx.out _ (HB8.out.trans (hb.mono HB8.out.size))) (by omega)
          rw [HF.out.1] at h9
          exact h9)
        have Cb := Lib.hid (fun W (hb : Below wr.heap.size wr W) => by
          have h9 := Hbp.out W _ bq zs (HB8.out.trans (hb.mono HB8.out.size)) (sB.later hb) (by omega)
          rw [HF.out.2.1, hlb] at h9
          exact h9)
        have Cc := Lib.hid (fun W (hb : Below wr.heap.size wr W) => by
          have h9 := Hbp.out W _ e (justS ys) (HB8.out.trans (hb.mono HB8.out.size)) (sE.later hb) (by omega)
          rw [HF.out.2.2.1, hlj, HF.out.2.2.2.2.2.2.2.2] at h9
          exact h9)
        obtain ⟨-, -, -, -, r1, r2, r3, r4, -⟩ := HF.out
        clear sA sB sE hlj hla hlb HF HI hS hsp HP HM Hbp Hsc Hh Hx Hl Hlb Hlm HT HK4 b5 hil hi hlt
        generalize scN ⟨traits, cl.map CrdD.v, tl.map TreD.v, need⟩ ys = n at *
        generalize scY ⟨traits, cl.map CrdD.v, tl.map TreD.v, need⟩ ys = sy at *
        generalize betV ⟨traits, cl.map CrdD.v, tl.map TreD.v, need⟩ x = va at *
        generalize betV ⟨traits, cl.map CrdD.v, tl.map TreD.v, need⟩ zs = vb at *
        obtain ⟨alo, ahi⟩ := va
        obtain ⟨blo, bhi⟩ := vb
        dsimp only at *
        have k8c := k8.cell
        go_upto_region 19 with (go_at_call 12; (with_reducible refine (Cs.out _ (Below.refl _ _)).mono ?_); rintro e9 w9 ⟨rfl, h9⟩)
        have k9 := k8.below h9 k8.lt
        have k9c := k9.cell
        clear k8c Cs
        go_upto_region 20 with (go_at_call 17; (with_reducible refine (Ca.out _ h9).mono ?_); rintro e11 w11 ⟨rfl, h11⟩)
        have e12 := (h9.trans (h11.mono h9.size)).alloc (h9.trans (h11.mono h9.size)).size (.cells #[.int .i64 alo, .int .i64 ahi] 43)
        have k12 := (k9.below h11 k9.lt).alloc (.cells #[.int .i64 alo, .int .i64 ahi] 43)
        have ka := Blk.new w11 #[.int .i64 alo, .int .i64 ahi] 43
        generalize hW : w11.alloc (.cells #[.int .i64 alo, .int .i64 ahi] 43) = w12 at *
        clear hW k9c h11 h9 Ca k8 k9
        generalize w11.heap.size = ga at *
        have k12c := k12.cell
        go_upto_region 21 with (go_at_call 17; (with_reducible refine (Cb.out _ e12).mono ?_); rintro e13 w13 ⟨rfl, h13⟩)
        have e14 := (e12.trans (h13.mono e12.size)).alloc (e12.trans (h13.mono e12.size)).size (.cells #[.int .i64 blo, .int .i64 bhi] 43)
        have k14 := (k12.below h13 k12.lt).alloc (.cells #[.int .i64 blo, .int .i64 bhi] 43)
        have ka2 := (ka.below h13 ka.lt).alloc (.cells #[.int .i64 blo, .int .i64 bhi] 43)
        have kb := Blk.new w13 #[.int .i64 blo, .int .i64 bhi] 43
        generalize hW : w13.alloc (.cells #[.int .i64 blo, .int .i64 bhi] 43) = w14 at *
        clear hW k12c h13 ka Cb
        generalize w13.heap.size = gb at *
        have k14c := k14.cell
        go_upto_region 22 with (go_at_call 17; (with_reducible refine (Cc.out _ e14).mono ?_); rintro e15 w15 ⟨rfl, h15⟩)
        have e16 := (e14.trans (h15.mono e14.size)).alloc (e14.trans (h15.mono e14.size)).size (.cells #[.int .i64 n, .int .i64 n] 43)
        have ka3 := (ka2.below h15 ka2.lt).alloc (.cells #[.int .i64 n, .int .i64 n] 43)
        have kb2 := (kb.below h15 kb.lt).alloc (.cells #[.int .i64 n, .int .i64 n] 43)
        have kc := Blk.new w15 #[.int .i64 n, .int .i64 n] 43
        generalize hW : w15.alloc (.cells #[.int .i64 n, .int .i64 n] 43) = w16 at *
        clear hW k14c h15 ka2 kb Cc
        generalize w15.heap.size = gc at *
        have b16 := HB8.out.trans (e16.mono HB8.out.size)
        have HS22 := Lib.hid (fun z : After w16.heap.size w16 => HSp.out n n z.val)
        have xa := After.cells (B := w16.heap.size) ka3.cell ka3.lt
        have xb := After.cells (B := w16.heap.size) kb2.cell kb2.lt
        have xd := After.cells (B := w16.heap.size) kc.cell kc.lt
        clear ka3 kb2 kc
        refine wp_region_class_lit (C := fun w' => ∃ z : After w16.heap.size w16, w' = z.val) (by kernel_rfl) (by kernel_rfl) ⟨⟨_, (Below.refl _ _).drew⟩, rfl⟩ ?_
        repeat (go_big_quiet_step ((first
          | (go_at_call 18; with_reducible exact after_of (Nat.le_refl _) _ (HS22.out _)))))
        refine wpQuiet_nil ?_
        intro wq hw'
        obtain ⟨⟨wz, hz⟩, hw''⟩ := hw'
        dsimp only at hw''
        subst hw''
        go_wp2_with fail
        go_ret
        exact ⟨rfl, b16.trans (hz.mono b16.size)⟩
end Go.Proofs.YtkimojiakabbcaaGreat
