/- The law on the pairs of a list, in any order: its walk where the list is good, out of the contracts of what it calls. -/
import Derived.Test.YtbkmfomdhjhkpaaGreatPairsPre
import Derived.Test.YtbkmfomdhjhkpaaGreatClass
namespace Go.Proofs.YtbkmfomdhjhkpaaGreat
open Go.ChangeShapes Go.WideShapes Go.ChangeAt Go.RowKit Go.Deep Go.Maps

theorem recZeroP (w : World) : (zeroValue 47).run Tryz.prog w = .ok (.agg #[.int .i64 0, .slice none 0 0, .int .u8 0, .int .i64 0, .int .i64 0, .string ByteArray.empty, .bool false, .slice none 0 0]) w := by kernel_rfl
theorem u8ZeroP (w : World) : (zeroValue 5).run Tryz.prog w = .ok (.int .u8 0) w := by kernel_rfl
theorem idxFst (A A' : Option Addr) (n n' c c' : Nat) (W : World) : (Instr.index 70 (.agg #[.slice A n c, .slice A' n' c']) (.int .i64 0)).run Tryz.prog W = .ok (.slice A n c) W := by kernel_rfl
theorem idxSnd (A A' : Option Addr) (n n' c c' : Nat) (W : World) : (Instr.index 70 (.agg #[.slice A n c, .slice A' n' c']) (.int .i64 1)).run Tryz.prog W = .ok (.slice A' n' c') W := by kernel_rfl
theorem own_empty (W : World) (t : TypeId) (size B : Nat) (hB : B ≤ W.heap.size) : (W.alloc (.cells #[] t)).ownsRow B t size (.slice (some ⟨W.heap.size, 0, none⟩) 0 0) 0 [] :=
  ⟨by simp, .inr ⟨W.heap.size, 0, #[], rfl, hB, heap_alloc_new _ _, Nat.le_refl _, by simp [maxLen], by simp, by simp⟩⟩

set_option maxRecDepth 100000 in
set_option maxHeartbeats 8000000 in
theorem matchPairs_walk (u : Rul) (l : List RD) (b off c : Nat) (seed : Int) (k : Nat) (x0 : RD) (t : List RD) (P1 P2 Q1 Q2 : List (Int × Int)) (w : World) (h : Recs w w.heap.size (some ⟨b, off, none⟩) l)
    (hcap : l.length ≤ c) (hk : k < l.length) (hl24 : l.length ≤ 24) (hmod : seed.tmod (l.length : Int) = (k : Int)) (hs8 : 0 ≤ seed ∧ seed ≤ 255) (htl : l.drop k ++ l.take k = x0 :: t)
    (Hrec : Hid (∀ x ∈ l, recB x.r = true)) (Hnd : Hid (l.map fun x => x.r.id).Nodup) (HD : Hid (PairsD u l x0 P1 P2 Q1 Q2))
    (HQ : Hid (∀ W : World, Calls Tryz.prog 19 #[] W fun e w' => e = .returned (.bool true) ∧ Below W.heap.size W w'))
    (HG : Hid (∀ W : World, Recs W W.heap.size (some ⟨b, off, none⟩) l → Calls Tryz.prog 10 #[.slice (some ⟨b, off, none⟩) l.length c] W fun e w' => e = .returned (.bool false) ∧ Below W.heap.size W w'))
    (HU : Hid (∀ W : World, Calls Tryz.prog 20 #[.agg #[.int .i64 u.l, .int .i64 u.d, .int .i64 u.y, .int .i64 u.t]] W fun e w' => e = .returned (.bool true) ∧ Below W.heap.size W w'))
    (HL : Hid (∀ W : World, Recs W W.heap.size (some ⟨b, off, none⟩) l → Calls Tryz.prog 27 #[.slice (some ⟨b, off, none⟩) l.length c] W fun e w' => e = .returned (.int .i64 0) ∧ Below W.heap.size W w'))
    (HP : Hid (∀ (l2 : List RD) A2 c2 (W : World), l2.Perm l → Recs W W.heap.size A2 l2 → Calls Tryz.prog 12 #[.agg #[.int .i64 u.l, .int .i64 u.d, .int .i64 u.y, .int .i64 u.t], .slice A2 l.length c2] W fun e w' => ∃ A4 c4 A5 c5, e = .returned (.tuple #[.slice A4 P2.length c4, .slice A5 P1.length c5, .int .i64 0]) ∧ Prs w' w'.heap.size A4 P2 ∧ Prs w' w'.heap.size A5 P1 ∧ Below W.heap.size W w'))
    (HT : Hid (∀ A2 c2 (W : World), Recs W W.heap.size A2 t → Calls Tryz.prog 12 #[.agg #[.int .i64 u.l, .int .i64 u.d, .int .i64 u.y, .int .i64 u.t], .slice A2 (l.length - 1) c2] W fun e w' => ∃ A4 c4 A5 c5, e = .returned (.tuple #[.slice A4 Q2.length c4, .slice A5 Q1.length c5, .int .i64 0]) ∧ Prs w' w'.heap.size A4 Q2 ∧ (A4 = none → Q2.length = 0 ∧ c4 = 0) ∧ Prs w' w'.heap.size A5 Q1 ∧ (A5 = none → Q1.length = 0 ∧ c5 = 0) ∧ Below W.heap.size W w'))
    (HS : Hid (∀ (P : List (Int × Int)) A1 A2 c1 c2 (W : World), P.length ≤ 576 → Prs W W.heap.size A1 P → Prs W W.heap.size A2 P → Calls Tryz.prog 16 #[.slice A1 P.length c1, .slice A2 P.length c2] W fun e w' => e = .returned (.bool true) ∧ Below W.heap.size W w'))
    (HC : Hid (∀ x ∈ l, ∀ y ∈ l, ∀ W : World, RecAt W W.heap.size x.A x.D x.r → RecAt W W.heap.size y.A y.D y.r → Calls Tryz.prog 23 #[.agg #[.int .i64 u.l, .int .i64 u.d, .int .i64 u.y, .int .i64 u.t], .agg #[.int .i64 x.r.id, .slice x.A x.r.names.length x.c, .int .u8 x.r.suf, .int .i64 x.r.lo, .int .i64 x.r.hi, .string x.r.num, .bool x.r.twin, .slice x.D x.r.stays.length x.d], .agg #[.int .i64 y.r.id, .slice y.A y.r.names.length y.c, .int .u8 y.r.suf, .int .i64 y.r.lo, .int .i64 y.r.hi, .string y.r.num, .bool y.r.twin, .slice y.D y.r.stays.length y.d]] W fun e w' => e = .returned (.tuple #[.agg #[.int .u8 (matF u x.r y.r).names, .int .u8 (matF u x.r y.r).num, .int .u8 (matF u x.r y.r).born, .int .u8 (matF u x.r y.r).place, .int .u8 (matF u x.r y.r).one], .int .i64 0]) ∧ Below W.heap.size W w')) :
    Calls Tryz.prog 8 #[.agg #[.int .i64 u.l, .int .i64 u.d, .int .i64 u.y, .int .i64 u.t], .slice (some ⟨b, off, none⟩) l.length c, .int .u8 seed] w fun e w' => e = .returned (.bool true) ∧ Below w.heap.size w w' := by
  have b0 := (Below.refl w.heap.size w).alloc (Nat.le_refl _) (.cells #[.int .i64 u.l, .int .i64 u.d, .int .i64 u.y, .int .i64 u.t] 23)
  have k0 := Blk.new w #[.int .i64 u.l, .int .i64 u.d, .int .i64 u.y, .int .i64 u.t] 23
  have Hl := h.later b0
  have hli : ((l.length : Int) == 0) = false := by
    have : (l.length : Int) ≠ 0 := by omega
    simpa using this
  have hli2 : ¬ (l.length : Int) = 0 := by omega
  have hws : IntKind.i64.wrap seed = seed := IntWalk.i64_in _ (by omega)
  have hwk : IntKind.i64.wrap (k : Int) = (k : Int) := IntWalk.i64_in _ (by omega)
  go_enter Tryz.func8, Tryz.ntmps8
  go_upto_region 8 with (first
    | (go_at_call 19; (with_reducible refine (HQ.out _).mono ?_); rintro e w1 ⟨rfl, h1⟩; have b1 := b0.trans (h1.mono b0.size); have Hl1 := h.later b1; have k1 := k0.below h1 k0.lt)
    | (go_at_call 10; (with_reducible refine (HG.out _ Hl1).mono ?_); rintro e w2 ⟨rfl, h2⟩; have b2 := b1.trans (h2.mono b1.size); have k2 := k1.below h2 k1.lt; have c2 := k2.cell)
    | (go_at_call 20; (with_reducible refine (HU.out _).mono ?_); rintro e w3 ⟨rfl, h3⟩; have b3 := b2.trans (h3.mono b2.size); have Hl3 := h.later b3; have k3 := k2.below h3 k2.lt)
    | (go_at_call 27; (with_reducible refine (HL.out _ Hl3).mono ?_); rintro e w4 ⟨rfl, h4⟩; have b4 := b3.trans (h4.mono b3.size); have Hl4 := h.later b4; have k4 := k3.below h4 k3.lt; have cc4 := k4.cell)
    | (go_at_call 12; (with_reducible refine (HP.out l _ _ _ (List.Perm.refl l) Hl4).mono ?_); rintro e w5 ⟨A4, c4, A5, c5, rfl, p4, p5, h5⟩; have b5 := b4.trans (h5.mono b4.size); have Hl5 := h.later b5; have k5 := k4.below h5 k4.lt))
  clear HQ HG HU HL h1 h2 h3 h4 k0 k1 k2 k3 k4 b0 b1 b2 b3 b4 Hl Hl1 Hl3 Hl4 c2 cc4
  have HN1 : Hid (∀ W, Below w5.heap.size w5 W → ∀ j v, ((l.drop k).flatMap recCells)[j]? = some v → W.cell? ((⟨b, off + k * 8, none⟩ : Addr).add j) = some v) := Lib.hid (fun W hW j v hj => by
    rw [recCells_drop, List.getElem?_drop] at hj
    have q := (Hl5.later hW).news _ rfl (k * 8 + j) v hj
    rw [WideShapes.add_plain] at q ⊢
    rw [Nat.add_assoc]; exact q)
  have HN2 : Hid (∀ W, Below w5.heap.size w5 W → ∀ j v, ((l.take k).flatMap recCells)[j]? = some v → W.cell? ((⟨b, off, none⟩ : Addr).add j) = some v) := Lib.hid (fun W hW j v hj => by
    rw [recCells_take, List.getElem?_take] at hj
    split at hj
    · exact (Hl5.later hW).news _ rfl j v hj
    · cases hj)
  obtain ⟨i0, hi0, hz0, hz1, hz2⟩ := info_parts recInfo
  have hkc : k ≤ c := by omega
  have hck : ¬ c = k := by omega
  have hkl : k ≤ l.length := by omega
  have d5 := Below.refl w5.heap.size w5
  have e1 : (k : Int).toNat = k := by omega
  have e2 : ¬ (k : Int) < 0 := by omega
  have hln1 : ((l.drop k).flatMap recCells).length = (l.length - k) * 8 := by rw [recCells_len, List.length_drop]
  have hln2 : ((l.take k).flatMap recCells).length = k * 8 := by rw [recCells_len, List.length_take, Nat.min_eq_left hkl]
  have HA0 : Hid (∀ W, Below w5.heap.size w5 W → (W.alloc (.cells #[] 47)).ownsRow w5.heap.size 47 8 (.slice (some ⟨W.heap.size, 0, none⟩) 0 0) 0 []) := Lib.hid (fun W hW => own_empty W 47 8 w5.heap.size hW.size)
  have dd5 : Below w5.heap.size w5 w5.drew := (Below.refl _ _).drew
  have hone : ∀ m : List RD, ∀ v ∈ m.flatMap recCells, v.oneCell' = true := fun m => recCells_one m
  have hmax : 0 + (l.length - k) ≤ maxLen := by unfold maxLen; omega
  have hmax2 : 0 + (l.length - k) + k ≤ maxLen := by unfold maxLen; omega
  go_region_held3 (fun W => Below w5.heap.size w5 W) ((repeat (first | with_reducible assumption | with_reducible exact Below.refl _ _ | with_reducible refine Below.drew ?_ | with_reducible refine Below.alloc ?_ (by first | omega | (simp; done) | (simp; omega)) _)))
    (first
      | (refine step_append_len rfl (.tmp 70) (.tmp 73) 24 rfl w5.heap.size 47 i0 _ 8 104 Tryz.underlying24 hi0 hz0 hz1 hz2 rfl (by decide) _ 0 [] rfl (HA0.out _ (by with_reducible assumption)) ⟨b, off + k * 8, none⟩ (l.length - k) (c - k) ((l.drop k).flatMap recCells) (by first | (simp [Act.eval]; done) | (simp [Act.eval]; intro e; omega)) hln1 (HN1.out _ (by with_reducible assumption)) (hone _) (by omega) hmax (by omega) (Below.size (by with_reducible assumption)) ?_
         intro g1 cap1 wa hown1 hg1 hat1 hbg1 hlt1
         have d6 : Below w5.heap.size w5 wa := Below.grown (by with_reducible assumption) hg1 (Below.size (by with_reducible assumption)) (fun k e => ((HA0.out _ (by with_reducible assumption)).lt k e).1))
      | (refine step_append_len rfl (.tmp 74) (.tmp 77) 24 rfl w5.heap.size 47 i0 _ 8 104 Tryz.underlying24 hi0 hz0 hz1 hz2 rfl (by decide) _ _ _ rfl hown1 ⟨b, off, none⟩ k c ((l.take k).flatMap recCells) (by simp [Act.eval]) hln2 (HN2.out _ (by with_reducible assumption)) (hone _) (by omega) hmax2 (by omega) d6.size ?_
         intro g2 cap2 wb hown2 hg2 hat2 hbg2 hlt2
         have d7 : Below w5.heap.size w5 wb := Below.grown d6 hg2 d6.size (fun k e => (hown1.lt k e).1)))
  have hperm : (x0 :: t).Perm l := by rw [← htl]; exact List.perm_append_comm.trans (by rw [List.take_append_drop])
  have hmem : ∀ x ∈ x0 :: t, x ∈ l := fun x hx => hperm.mem_iff.1 hx
  have hlt : t.length + 1 = l.length := hperm.length_eq
  have hg2c : l.length ≤ cap2 ∧ g2 < wb.heap.size ∧ w5.heap.size ≤ g2 := by
    rcases hown2.2 with ⟨e, _⟩ | ⟨g, cap, cur, e, h1, _, h3, _⟩
    · cases e
    · injection e with e1 e2 e3
      exact ⟨by omega, hlt2, hbg2⟩
  have RT : Recs wb wb.heap.size (some ⟨g2, 0, none⟩) (x0 :: t) := by
    have q : wb.ownsRow w5.heap.size 47 8 (.slice (some ⟨g2, 0, none⟩) (x0 :: t).length cap2) (x0 :: t).length ((x0 :: t).flatMap recCells) := by
      have e : 0 + (l.length - k) + k = (x0 :: t).length := by simp; omega
      rw [e] at hown2
      rw [← htl, List.flatMap_append]
      rw [← htl] at hown2
      simpa using hown2
    exact recs_own q (fun x hx => (Hl5.later d7).ofMem (hmem x hx))
  have k7 := k5.below d7 k5.lt
  have kc7 := k7.cell
  have b7 := b5.trans (d7.mono b5.size)
  have HR5 := Lib.hid (fun x hx => Hl5.ofMem (x := x) hx)
  clear hown2 hg2 hat2 hbg2 hlt2 hown1 hg1 hat1 hbg1 hlt1 d6 HN1 HN2 HA0 dd5 hone hmax hmax2 hln1 hln2 htl hi0 hz0 hz1 hz2 h5 d5 hcap hkc hck hkl e1 e2
  have p4b := p4.later d7
  have p5b := p5.later d7
  go_upto_region 10 with (go_at_call 12; (with_reducible refine (HP.out (x0 :: t) _ _ _ hperm RT).mono ?_); rintro e w6 ⟨A6, c6, A7, c7, rfl, p6, p7, h6⟩)
  have d8 := d7.trans (h6.mono d7.size)
  have RT6 := RT.later h6
  have k8 := k7.below h6 k7.lt
  have kc8 := k8.cell
  have b8 := b7.trans (h6.mono b7.size)
  have p4c := p4b.later h6
  have p5c := p5b.later h6
  have hz6 := h6.size
  have Ht6 : Hid (∀ A2 W, Below w6.heap.size w6 W → (t = [] ∨ A2 = some ⟨g2, 8, none⟩) → Recs W W.heap.size A2 t) := Lib.hid (fun A2 W hW hA => by
    rcases hA with rfl | rfl
    · intro j hj; simp at hj
    · exact (RT6.later hW).tail)
  have hc1 : Hid (cap2 = 1 → t = []) := Lib.hid (fun e => List.eq_nil_of_length_eq_zero (by omega))
  have h1l : 1 ≤ l.length := by omega
  have h1i : (1 : Int) ≤ (l.length : Int) := by omega
  have h2i : (l.length : Int) ≤ (cap2 : Int) := by omega
  have h2l : l.length ≤ cap2 := by omega
  have SK : ∀ W, Below w6.heap.size w6 W → Below w6.heap.size w6 W ∧ (∀ i, W.cell? ⟨w.heap.size, i, none⟩ = (#[.int .i64 u.l, .int .i64 u.d, .int .i64 u.y, .int .i64 u.t] : Array Value)[i]?) := fun W hW => ⟨hW, (k8.below hW k8.lt).cell⟩
  go_cut [12, 16, 17, 18] (fun s0 s1 s2 s3 wx => ∃ A8 c8 A9 c9, s0 = .slice (some ⟨g2, 0, none⟩) l.length cap2 ∧ s1 = .slice A8 Q2.length c8 ∧ s2 = .slice A9 Q1.length c9 ∧ s3 = .int .i64 0 ∧ Hid (Prs wx wx.heap.size A8 Q2 ∧ (A8 = none → Q2.length = 0 ∧ c8 = 0) ∧ Prs wx wx.heap.size A9 Q1 ∧ (A9 = none → Q1.length = 0 ∧ c9 = 0)) ∧ Below w6.heap.size w6 wx)
  case first =>
    by_cases hcap1 : cap2 = 1
    · have ht0 := hc1.out hcap1
      go_region_held3 (fun W => Below w6.heap.size w6 W ∧ (∀ i, W.cell? ⟨w.heap.size, i, none⟩ = (#[.int .i64 u.l, .int .i64 u.d, .int .i64 u.y, .int .i64 u.t] : Array Value)[i]?)) ((refine SK _ ?_; repeat (first | with_reducible assumption | with_reducible exact Below.refl _ _ | with_reducible refine Below.drew ?_)))
        ((go_at_call 12; (refine (HT.out _ _ _ (Ht6.out _ _ ((Below.refl _ _).drew) (by simp [ht0]))).mono ?_); rintro e w7 ⟨A8, c8, A9, c9, rfl, p8, n8, p9, n9, h7⟩; have d9 : Below w6.heap.size w6 w7 := ((Below.refl _ _).drew).trans h7))
      all_goals first | (go_step; go_step; go_meet) | (go_step; go_meet) | go_meet
      exact ⟨A8, c8, A9, c9, by first | rfl | rw [hcap1], rfl, rfl, rfl, Lib.hid ⟨p8, n8, p9, n9⟩, d9⟩
    · clear hc1
      go_region_held3 (fun W => Below w6.heap.size w6 W ∧ (∀ i, W.cell? ⟨w.heap.size, i, none⟩ = (#[.int .i64 u.l, .int .i64 u.d, .int .i64 u.y, .int .i64 u.t] : Array Value)[i]?)) ((refine SK _ ?_; repeat (first | with_reducible assumption | with_reducible exact Below.refl _ _ | with_reducible refine Below.drew ?_)))
        ((go_at_call 12; (refine (HT.out _ _ _ (Ht6.out _ _ ((Below.refl _ _).drew) (by first | (simp; done) | (simp [hcap1]; done)))).mono ?_); rintro e w7 ⟨A8, c8, A9, c9, rfl, p8, n8, p9, n9, h7⟩; have d9 : Below w6.heap.size w6 w7 := ((Below.refl _ _).drew).trans h7))
      all_goals first | (go_step; go_step; go_meet) | (go_step; go_meet) | go_meet
      exact ⟨A8, c8, A9, c9, by first | rfl | rw [hcap1], rfl, rfl, rfl, Lib.hid ⟨p8, n8, p9, n9⟩, d9⟩
  obtain ⟨A8, c8, A9, c9, rfl, rfl, rfl, rfl, HQ8, d9⟩ := hcut
  obtain ⟨w7, rfl⟩ : ∃ w7 : World, w7 = wc := ⟨_, rfl⟩
  have k9 := k8.below d9 k8.lt
  have b9 := b8.trans (d9.mono b8.size)
  have p4d := p4c.later d9
  have p5d := p5c.later d9
  have p6d := p6.later d9
  have p7d := p7.later d9
  have RT7 := RT6.later d9
  have n2 := HD.out.n2
  have n1 := HD.out.n1
  have hmm := @run_makeMap Tryz.prog
  go_wp2_with (first
    | (go_at_call 16; (with_reducible refine (HS.out P2 A4 A6 c4 c6 _ n2 p4d p6d).mono ?_); rintro e w8 ⟨rfl, h8⟩)
    | (go_at_call 16; (with_reducible refine (HS.out P1 A5 A7 c5 c7 _ n1 (p5d.later h8) (p7d.later h8)).mono ?_); rintro e w9 ⟨rfl, h9⟩))
  have hb89 := h8.trans (h9.mono h8.size)
  have HR9 : Hid (∀ W, Below w9.heap.size w9 W → ∀ x ∈ l, RecAt W W.heap.size x.A x.D x.r ∧ x.r.names.length ≤ x.c) := Lib.hid (fun W hW x hx => by
    have q := HR5.out x hx
    have g : Below w5.heap.size w5 W := (((d8.trans (d9.mono d8.size)).trans (hb89.mono (Nat.le_trans d8.size d9.size))).trans (hW.mono (Nat.le_trans (Nat.le_trans d8.size d9.size) hb89.size)))
    exact ⟨q.1.later g, q.2⟩)
  have Hl9 := ((Hl5.later d8).later d9).later hb89
  have b99 := b9.trans (hb89.mono b9.size)
  have k99 := k9.below hb89 k9.lt
  have RT9 := RT7.later hb89
  have p4e := p4d.later hb89
  have p5e := p5d.later hb89
  have p8e := HQ8.out.1.later hb89
  have p9e := HQ8.out.2.2.1.later hb89
  have hM0 : MapFn (w9.alloc (.map #[] 0)) Tryz.prog 3 w9.heap.size 0 (byG (l.take 0)) := MapFn.made w9 Tryz.prog 3
  have HI0 : Hid (MapFn (w9.alloc (.map #[] 0)) Tryz.prog 3 w9.heap.size 0 (byG (l.take 0)) ∧ Below w9.heap.size w9 (w9.alloc (.map #[] 0))) := Lib.hid ⟨hM0, (Below.refl _ _).alloc (Nat.le_refl _) _⟩
  clear hM0 h8 h9 hb89 p4 p5 p6 p7 p4b p5b p4c p5c p4d p5d p6d p7d RT RT6 RT7 Ht6 SK HP HT HS Hl5 HR5 h h6 d7 d8 d9 hz6 b5 b7 b8 b9 k5 k7 k8 k9 kc7 kc8
  go_loopw [119] (fun ii wr => ∃ i : Nat, i ≤ l.length ∧ ii = .int .i64 i ∧ Hid (MapFn wr Tryz.prog 3 w9.heap.size i (byG (l.take i)) ∧ Below w9.heap.size w9 wr)) (fun ii _ => l.length - (intOf ii).toNat)
  case atStart => exact ⟨0, Nat.zero_le _, rfl, HI0⟩
  case round =>
    obtain ⟨i, hi, rfl, hR1⟩ := hrel
    by_cases hlt1 : i < l.length
    · as_aux_lemma =>
      have hil : (i : Int) < (l.length : Int) := by omega
      obtain ⟨hI1, hI2⟩ := hR1.out
      obtain ⟨b', off', e', hb', C, _, _⟩ := (Hl9.later hI2).eight hlt1
      cases e'
      have hrx := Hrec.out _ (List.getElem_mem hlt1)
      have hnx : l[i].r.id ∉ (l.take i).map fun y => y.r.id := fun e => by
        have h1 := Hnd.out
        rw [← List.take_append_drop i l, List.map_append, List.nodup_append] at h1
        refine h1.2.2 _ e _ ?_ rfl
        rw [List.drop_eq_getElem_cons hlt1, List.map_cons]; exact List.mem_cons_self
      have HT := Lib.hid (byG_snoc (l.take i) l[i] hnx)
      have HT2 : Hid (l.take i ++ [l[i]] = l.take (i + 1)) := Lib.hid (List.take_succ_eq_append_getElem hlt1).symm
      have wfp : (Lit.int .i64 l[i].r.id).wf = true := WalkArith.wf_i64 (by simp only [recB, Bool.and_eq_true] at hrx; have := hrx.1.1.1.1.1; simp [inB] at this; omega)
      generalize l[i] = x at *
      obtain ⟨c0, c1, c2, c3, c4, c5, c6, c7⟩ := C
      have hM2 := hI1.alloc (.cells #[.int .i64 x.r.id, .slice x.A x.r.names.length x.c, .int .u8 x.r.suf, .int .i64 x.r.lo, .int .i64 x.r.hi, .string x.r.num, .bool x.r.twin, .slice x.D x.r.stays.length x.d] 47)
      obtain ⟨w3, hrun3, hput, hg3⟩ := hM2.put (int_keyed Tryz.underlying3) Tryz.underlying68 (by unfold maxLen; omega) (keyOf_int_mk Tryz.underlying3 wfp) (val := .agg #[.int .i64 x.r.id, .slice x.A x.r.names.length x.c, .int .u8 x.r.suf, .int .i64 x.r.lo, .int .i64 x.r.hi, .string x.r.num, .bool x.r.twin, .slice x.D x.r.stays.length x.d])
      rw [HT.out, HT2.out] at hput
      have HJ : Hid (MapFn w3 Tryz.prog 3 w9.heap.size (i + 1) (byG (l.take (i + 1))) ∧ Below w9.heap.size w9 w3) := Lib.hid ⟨hput, (hI2.alloc (by have := hI2.size; omega) _).grown hg3 (by have := hI2.size; simp; omega) (fun k e => by have := Option.some.inj e; omega)⟩
      clear hput hM2 hI1 hI2 hR1 HT HT2 hnx HI0
      go_wp2_with fail
      go_roundw
      case rel => exact ⟨i + 1, by omega, by go_num, HJ⟩
      case measure => simp [intOf]; omega
    · have hil : ¬ (i : Int) < (l.length : Int) := by omega
      obtain rfl : i = l.length := by omega
      have hby := hR1.out.1
      rw [List.take_of_length_le (Nat.le_refl _)] at hby
      have hw9 := hR1.out.2
      obtain ⟨W9, rfl⟩ : ∃ W9 : World, W9 = wr := ⟨_, rfl⟩
      have Hby := Lib.hid hby
      clear hby hR1 HI0
      have hM1 : MapFn (W9.alloc (.map #[] 0)) Tryz.prog 71 W9.heap.size 0 (foundG []) := MapFn.made W9 Tryz.prog 71
      have HF0 : Hid (MapFn (W9.alloc (.map #[] 0)) Tryz.prog 71 W9.heap.size (preL P1 P2 0).length (foundG (preL P1 P2 0)) ∧ Below W9.heap.size W9 (W9.alloc (.map #[] 0))) := Lib.hid ⟨hM1, (Below.refl _ _).alloc (Nat.le_refl _) _⟩
      have p4f := p4e.later hw9
      have hix0 := idxFst A5 A4 P1.length P2.length c5 c4
      have hix1 := idxSnd A5 A4 P1.length P2.length c5 c4
      have p5f := p5e.later hw9
      clear hM1 p4e p5e
      go_wp2_with fail
      go_loopw [132] (fun ii wr => ∃ (i : Nat) (z : Int), i ≤ 2 ∧ z = i ∧ ii = .int .i64 z ∧ Hid (MapFn wr Tryz.prog 71 W9.heap.size (preL P1 P2 i).length (foundG (preL P1 P2 i)) ∧ Below W9.heap.size W9 wr)) (fun ii _ => 2 - (intOf ii).toNat)
      case atStart => exact ⟨0, 0, by omega, rfl, rfl, HF0⟩
      case round =>
        obtain ⟨i, z, hi2, hz, rfl, hR2⟩ := hrel
        clear HF0
        have hway : i = 0 ∨ i = 1 ∨ i = 2 := by omega
        rcases hway with rfl | rfl | rfl
        · as_aux_lemma =>
          obtain rfl : z = 0 := by simpa using hz
          clear hz
          have HN : Hid (((([] : List ((Int × Int) × Int)) ++ P1.map (fun p => (p, (1 : Int)))).map (·.1)).Nodup) := Lib.hid (nodup_base HD.out.nodup)
          have HW : Hid (∀ y ∈ ([] : List ((Int × Int) × Int)) ++ P1.map (fun p => (p, (1 : Int))), PairWf y.1) := Lib.hid (fun y hy => HD.out.wf y (List.mem_append_left _ hy))
          have HSt : Hid (P1.Pairwise lexLt) := Lib.hid (HD.out.s1)
          have hnb : (([] : List ((Int × Int) × Int))).length ≤ 576 := (by simp)
          have hnp : P1.length ≤ 576 := (HD.out.n1)
          have HJ0 : Hid (MapFn wr Tryz.prog 71 W9.heap.size ((([] : List ((Int × Int) × Int))).length + 0) (foundG (([] : List ((Int × Int) × Int)) ++ (P1.take 0).map (fun p => (p, (1 : Int))))) ∧ Below W9.heap.size W9 wr) := Lib.hid (by
            rw [List.take_zero, List.map_nil, List.append_nil, Nat.add_zero]; exact hR2.out)
          clear hR2
          obtain ⟨base, hbase⟩ : ∃ base : List ((Int × Int) × Int), ([] : List ((Int × Int) × Int)) = base := ⟨_, rfl⟩
          rw [hbase] at HN HW hnb HJ0
          have Hbase := Lib.hid hbase
          clear hbase
          go_wp2_with fail
          go_loopw [138] (fun jj wr => ∃ n : Nat, n ≤ P1.length ∧ jj = .int .i64 n ∧ Hid (MapFn wr Tryz.prog 71 W9.heap.size (base.length + n) (foundG (base ++ (P1.take n).map (fun p => (p, (1 : Int))))) ∧ Below W9.heap.size W9 wr)) (fun jj _ => P1.length - (intOf jj).toNat)
          case atStart => exact ⟨0, Nat.zero_le _, rfl, HJ0⟩
          case round =>
            obtain ⟨n, hn, rfl, hR3⟩ := hrel
            clear HJ0
            by_cases hnt : n < P1.length
            · as_aux_lemma =>
              have hnl : (n : Int) < (P1.length : Int) := by omega
              obtain ⟨hF, hB⟩ := hR3.out
              have pc := p5f.later hB
              obtain ⟨b2, o2, e2, hb2, r1, r2⟩ := pc n hnt
              have HSn := Lib.hid (found_step (base := base) (kk := (1 : Int)) hnt)
              have hnew := found_new HN.out hnt
              have hwfp : PairWf P1[n] := HW.out (P1[n], (1 : Int)) (List.mem_append_right _ (List.mem_map_of_mem (f := fun p : Int × Int => (p, (1 : Int))) (List.getElem_mem hnt)))
              have hwl : ∀ x ∈ base ++ (P1.take n).map (fun p => (p, (1 : Int))), PairWf x.1 := fun x hx => HW.out x (found_sub n x hx)
              have hM2 := (hF.alloc (.cells #[.int .i64 P1[n].1, .int .i64 P1[n].2] 71)).drew
              obtain ⟨w3, hrun3, hput, hg3⟩ := hM2.put pairKeyed Tryz.underlying69 (by unfold maxLen; omega) (pairKey hwfp) (val := .int .u8 1)
              rw [foundG_snoc _ _ _ hwfp hwl hnew, ← HSn.out] at hput
              have hzB := hB.size
              have hltB := hF.lt
              have HJ : Hid (MapFn w3 Tryz.prog 71 W9.heap.size (base.length + (n + 1)) (foundG (base ++ (P1.take (n + 1)).map (fun p => (p, (1 : Int))))) ∧ Below W9.heap.size W9 w3) := Lib.hid ⟨hput, ((hB.alloc hzB _).drew).grown hg3 (by simp; omega) (fun k e => by have := Option.some.inj e; omega)⟩
              subst e2
              clear hput hM2 hwl hnew HSn hF hR3 HN
              rcases Nat.eq_zero_or_pos n with rfl | hn0
              · simp only [Nat.zero_mul, Nat.add_zero] at r1 r2
                generalize P1[0] = p at *
                clear pc HW HSt hB
                go_upto_region 26 with fail
                go_region
                go_wp2_with fail
                go_roundw
                case rel => exact ⟨0 + 1, by omega, by go_num, HJ⟩
                case measure => simp [intOf]; omega
              · obtain ⟨m, rfl⟩ : ∃ m, n = m + 1 := ⟨n - 1, by omega⟩
                have hmt : m < P1.length := by omega
                obtain ⟨_, _, e3, _, t1, t2⟩ := pc m hmt
                cases e3
                have hlex : lexLt P1[m] P1[m + 1] := (List.pairwise_iff_getElem.1 HSt.out) m (m + 1) hmt hnt (by omega)
                generalize P1[m] = q at *
                generalize P1[m + 1] = p at *
                have e1 : ((m : Int) + 1).toNat = m + 1 := by omega
                have e2 : IntKind.i64.wrap ((m : Int) + 1 - 1) = (m : Int) := by rw [show (m : Int) + 1 - 1 = m by omega]; exact IntWalk.i64_in _ (by omega)
                have e3 : ((m : Int) + 1 - 1) = (m : Int) := by omega
                have hg0 : decide ((0 : Int) < (m : Int) + 1) = true := decide_eq_true (by omega)
                have e4 : (0 : Int) < (m : Int) + 1 := by omega
                have hml : (m : Int) < (P1.length : Int) := by omega
                have s1 : ∀ o, (wr.alloc o).cell? ⟨b2, o2 + m * 2, none⟩ = some (.int .i64 q.1) := fun o => (((Below.refl wr.heap.size wr).alloc (Nat.le_refl _) o).cell (p := ⟨b2, o2 + m * 2, none⟩) hb2).trans t1
                have s2 : ∀ o, (wr.alloc o).cell? ⟨b2, o2 + m * 2 + 1, none⟩ = some (.int .i64 q.2) := fun o => (((Below.refl wr.heap.size wr).alloc (Nat.le_refl _) o).cell (p := ⟨b2, o2 + m * 2 + 1, none⟩) hb2).trans t2
                clear pc HW HSt hB
                rcases hlex with hx | ⟨hx, hy⟩
                · have hc1 : ¬ p.1 < q.1 := by omega
                  have hc2 : (p.1 == q.1) = false := by
                    have : p.1 ≠ q.1 := by omega
                    simpa using this
                  clear hx
                  go_upto_region 26 with fail
                  go_region
                  go_wp2_with fail
                  go_roundw
                  case rel => exact ⟨m + 1 + 1, by omega, by go_num, HJ⟩
                  case measure => simp [intOf]; omega
                · have hc1 : ¬ p.1 < q.1 := by omega
                  have hc2 : (p.1 == q.1) = true := by simp [hx]
                  have hc3 : ¬ p.2 ≤ q.2 := by omega
                  clear hx hy
                  go_upto_region 26 with fail
                  go_region
                  go_wp2_with fail
                  go_roundw
                  case rel => exact ⟨m + 1 + 1, by omega, by go_num, HJ⟩
                  case measure => simp [intOf]; omega
            · have hnl : ¬ (n : Int) < (P1.length : Int) := by omega
              have HJ : Hid (MapFn wr Tryz.prog 71 W9.heap.size (preL P1 P2 (0 + 1)).length (foundG (preL P1 P2 (0 + 1))) ∧ Below W9.heap.size W9 wr) := Lib.hid (by
                have q := hR3.out
                obtain rfl : n = P1.length := by omega
                rw [List.take_of_length_le (Nat.le_refl _), ← Hbase.out] at q
                have e : (preL P1 P2 (0 + 1)) = ([] : List ((Int × Int) × Int)) ++ P1.map (fun p => (p, (1 : Int))) := rfl
                have e2 : (([] : List ((Int × Int) × Int)) ++ P1.map (fun p => (p, (1 : Int)))).length = (([] : List ((Int × Int) × Int))).length + P1.length := by simp
                rw [e, e2]
                exact q)
              clear hR3
              go_wp2_with fail
              go_roundw
              case rel => exact ⟨0 + 1, ((0 + 1 : Nat) : Int), by omega, rfl, by first | rfl | go_num, HJ⟩
              case measure => simp [intOf]
        · as_aux_lemma =>
          obtain rfl : z = 1 := by simpa using hz
          clear hz
          have HN : Hid (((P1.map (fun p => (p, (1 : Int))) ++ P2.map (fun p => (p, (2 : Int)))).map (·.1)).Nodup) := Lib.hid (HD.out.nodup)
          have HW : Hid (∀ y ∈ P1.map (fun p => (p, (1 : Int))) ++ P2.map (fun p => (p, (2 : Int))), PairWf y.1) := Lib.hid (HD.out.wf)
          have HSt : Hid (P2.Pairwise lexLt) := Lib.hid (HD.out.s2)
          have hnb : (P1.map (fun p => (p, (1 : Int)))).length ≤ 576 := (by simpa using HD.out.n1)
          have hnp : P2.length ≤ 576 := (HD.out.n2)
          have HJ0 : Hid (MapFn wr Tryz.prog 71 W9.heap.size ((P1.map (fun p => (p, (1 : Int)))).length + 0) (foundG (P1.map (fun p => (p, (1 : Int))) ++ (P2.take 0).map (fun p => (p, (2 : Int))))) ∧ Below W9.heap.size W9 wr) := Lib.hid (by
            rw [List.take_zero, List.map_nil, List.append_nil, Nat.add_zero]; exact hR2.out)
          clear hR2
          obtain ⟨base, hbase⟩ : ∃ base : List ((Int × Int) × Int), P1.map (fun p => (p, (1 : Int))) = base := ⟨_, rfl⟩
          rw [hbase] at HN HW hnb HJ0
          have Hbase := Lib.hid hbase
          clear hbase
          go_wp2_with fail
          go_loopw [138] (fun jj wr => ∃ n : Nat, n ≤ P2.length ∧ jj = .int .i64 n ∧ Hid (MapFn wr Tryz.prog 71 W9.heap.size (base.length + n) (foundG (base ++ (P2.take n).map (fun p => (p, (2 : Int))))) ∧ Below W9.heap.size W9 wr)) (fun jj _ => P2.length - (intOf jj).toNat)
          case atStart => exact ⟨0, Nat.zero_le _, rfl, HJ0⟩
          case round =>
            obtain ⟨n, hn, rfl, hR3⟩ := hrel
            clear HJ0
            by_cases hnt : n < P2.length
            · as_aux_lemma =>
              have hnl : (n : Int) < (P2.length : Int) := by omega
              obtain ⟨hF, hB⟩ := hR3.out
              have pc := p4f.later hB
              obtain ⟨b2, o2, e2, hb2, r1, r2⟩ := pc n hnt
              have HSn := Lib.hid (found_step (base := base) (kk := (2 : Int)) hnt)
              have hnew := found_new HN.out hnt
              have hwfp : PairWf P2[n] := HW.out (P2[n], (2 : Int)) (List.mem_append_right _ (List.mem_map_of_mem (f := fun p : Int × Int => (p, (2 : Int))) (List.getElem_mem hnt)))
              have hwl : ∀ x ∈ base ++ (P2.take n).map (fun p => (p, (2 : Int))), PairWf x.1 := fun x hx => HW.out x (found_sub n x hx)
              have hM2 := (hF.alloc (.cells #[.int .i64 P2[n].1, .int .i64 P2[n].2] 71)).drew
              obtain ⟨w3, hrun3, hput, hg3⟩ := hM2.put pairKeyed Tryz.underlying69 (by unfold maxLen; omega) (pairKey hwfp) (val := .int .u8 2)
              rw [foundG_snoc _ _ _ hwfp hwl hnew, ← HSn.out] at hput
              have hzB := hB.size
              have hltB := hF.lt
              have HJ : Hid (MapFn w3 Tryz.prog 71 W9.heap.size (base.length + (n + 1)) (foundG (base ++ (P2.take (n + 1)).map (fun p => (p, (2 : Int))))) ∧ Below W9.heap.size W9 w3) := Lib.hid ⟨hput, ((hB.alloc hzB _).drew).grown hg3 (by simp; omega) (fun k e => by have := Option.some.inj e; omega)⟩
              subst e2
              clear hput hM2 hwl hnew HSn hF hR3 HN
              rcases Nat.eq_zero_or_pos n with rfl | hn0
              · simp only [Nat.zero_mul, Nat.add_zero] at r1 r2
                generalize P2[0] = p at *
                clear pc HW HSt hB
                go_upto_region 26 with fail
                go_region
                go_wp2_with fail
                go_roundw
                case rel => exact ⟨0 + 1, by omega, by go_num, HJ⟩
                case measure => simp [intOf]; omega
              · obtain ⟨m, rfl⟩ : ∃ m, n = m + 1 := ⟨n - 1, by omega⟩
                have hmt : m < P2.length := by omega
                obtain ⟨_, _, e3, _, t1, t2⟩ := pc m hmt
                cases e3
                have hlex : lexLt P2[m] P2[m + 1] := (List.pairwise_iff_getElem.1 HSt.out) m (m + 1) hmt hnt (by omega)
                generalize P2[m] = q at *
                generalize P2[m + 1] = p at *
                have e1 : ((m : Int) + 1).toNat = m + 1 := by omega
                have e2 : IntKind.i64.wrap ((m : Int) + 1 - 1) = (m : Int) := by rw [show (m : Int) + 1 - 1 = m by omega]; exact IntWalk.i64_in _ (by omega)
                have e3 : ((m : Int) + 1 - 1) = (m : Int) := by omega
                have hg0 : decide ((0 : Int) < (m : Int) + 1) = true := decide_eq_true (by omega)
                have e4 : (0 : Int) < (m : Int) + 1 := by omega
                have hml : (m : Int) < (P2.length : Int) := by omega
                have s1 : ∀ o, (wr.alloc o).cell? ⟨b2, o2 + m * 2, none⟩ = some (.int .i64 q.1) := fun o => (((Below.refl wr.heap.size wr).alloc (Nat.le_refl _) o).cell (p := ⟨b2, o2 + m * 2, none⟩) hb2).trans t1
                have s2 : ∀ o, (wr.alloc o).cell? ⟨b2, o2 + m * 2 + 1, none⟩ = some (.int .i64 q.2) := fun o => (((Below.refl wr.heap.size wr).alloc (Nat.le_refl _) o).cell (p := ⟨b2, o2 + m * 2 + 1, none⟩) hb2).trans t2
                clear pc HW HSt hB
                rcases hlex with hx | ⟨hx, hy⟩
                · have hc1 : ¬ p.1 < q.1 := by omega
                  have hc2 : (p.1 == q.1) = false := by
                    have : p.1 ≠ q.1 := by omega
                    simpa using this
                  clear hx
                  go_upto_region 26 with fail
                  go_region
                  go_wp2_with fail
                  go_roundw
                  case rel => exact ⟨m + 1 + 1, by omega, by go_num, HJ⟩
                  case measure => simp [intOf]; omega
                · have hc1 : ¬ p.1 < q.1 := by omega
                  have hc2 : (p.1 == q.1) = true := by simp [hx]
                  have hc3 : ¬ p.2 ≤ q.2 := by omega
                  clear hx hy
                  go_upto_region 26 with fail
                  go_region
                  go_wp2_with fail
                  go_roundw
                  case rel => exact ⟨m + 1 + 1, by omega, by go_num, HJ⟩
                  case measure => simp [intOf]; omega
            · have hnl : ¬ (n : Int) < (P2.length : Int) := by omega
              have HJ : Hid (MapFn wr Tryz.prog 71 W9.heap.size (preL P1 P2 (1 + 1)).length (foundG (preL P1 P2 (1 + 1))) ∧ Below W9.heap.size W9 wr) := Lib.hid (by
                have q := hR3.out
                obtain rfl : n = P2.length := by omega
                rw [List.take_of_length_le (Nat.le_refl _), ← Hbase.out] at q
                have e : (preL P1 P2 (1 + 1)) = P1.map (fun p => (p, (1 : Int))) ++ P2.map (fun p => (p, (2 : Int))) := rfl
                have e2 : (P1.map (fun p => (p, (1 : Int))) ++ P2.map (fun p => (p, (2 : Int)))).length = (P1.map (fun p => (p, (1 : Int)))).length + P2.length := by simp
                rw [e, e2]
                exact q)
              clear hR3
              go_wp2_with fail
              go_roundw
              case rel => exact ⟨1 + 1, ((1 + 1 : Nat) : Int), by omega, rfl, by first | rfl | go_num, HJ⟩
              case measure => simp [intOf]
        · obtain rfl : z = 2 := by simpa using hz
          clear hz
          have hF : MapFn wr Tryz.prog 71 W9.heap.size (foundOf P1 P2).length (foundG (foundOf P1 P2)) := hR2.out.1
          have hB := hR2.out.2
          have HF := Lib.hid hF
          obtain ⟨D0, hown0, hat0⟩ := hF
          have Hs0 := Lib.hid (HD.out.size hown0 hat0)
          have Hat0 := Lib.hid hat0
          have n1 := HD.out.n1
          have n2 := HD.out.n2
          have hsum : IntKind.i64.wrap ((P2.length : Int) + (P1.length : Int)) = (P2.length : Int) + (P1.length : Int) := IntWalk.i64_in _ (by omega)
          have hsum2 : ((P2.length + P1.length : Nat) : Int) = (P2.length : Int) + (P1.length : Int) := by omega
          have hwB : Below w9.heap.size w9 wr := hw9.trans (hB.mono hw9.size)
          have b10f : Below w.heap.size w wr := b99.trans (hwB.mono b99.size)
          obtain ⟨D1, hownB, hatB⟩ := Hby.out.below hB Hby.out.lt
          have HatB := Lib.hid hatB
          obtain ⟨W10, rfl⟩ : ∃ W10 : World, W10 = wr := ⟨_, rfl⟩
          clear hR2 hat0 hatB p4f p5f hix0 hix1
          go_wp2_with (first
            | (at_len; refine wpList_len_own _ rfl _ 69 rfl 71 5 Tryz.underlying69 rawElem W9.heap.size _ D0 rfl hown0 ?_; rw [Hs0.out])
            | (at_range; refine wpList_range_own _ rfl _ 68 rfl 3 47 (int_keyed Tryz.underlying3) Tryz.underlying68 rawElem w9.heap.size _ D1 rfl hownB ?_; intro w0 hrg0 hg0 hs0))
          go_frame
          have hw0 : Below W10.heap.size W10 w0 := (Below.refl _ _).grown hg0 (Nat.le_refl _) (fun k e => by cases e)
          have HR0 := Lib.hid hrg0
          clear hown0 hownB hrg0 hg0 hs0 Hs0
          go_loopw [] (fun wi => ∃ (left : Lit → Bool) (cnt : Nat), Hid (wi.ranges Tryz.prog 3 rawElem w9.heap.size W10.heap.size l.length D1 left cnt ∧ Below W10.heap.size W10 wi)) (fun wi => wi.rangeLeft w9.heap.size W10.heap.size)
          case atStart => exact ⟨_, _, Lib.hid ⟨HR0.out, hw0⟩⟩
          case round =>
            obtain ⟨left, cnt, hR4⟩ := hrel
            obtain ⟨hrg, hb10⟩ := hR4.out
            have Hrg := Lib.hid hrg
            clear hR4 HR0 hw0 hrg
            go_wp2_with (at_next; go_loud (refine wpList_next_ranges _ rfl _ rfl 3 (int_keyed Tryz.underlying3) rawElem (Value.int .i64) (fun u : Value => u) intKeyShape rawShape w9.heap.size W10.heap.size l.length D1 left cnt rfl Hrg.out ?_ ?_))
            · as_aux_lemma =>
              intro _ hl0
              clear hl0 Hrg HC HR9 Hby HatB
              obtain ⟨W11, rfl⟩ : ∃ W11 : World, W11 = wr := ⟨_, rfl⟩
              have hb11 : Below w9.heap.size w9 W11 := hwB.trans (hb10.mono hwB.size)
              have p8f := p8e.later hb11
              have p9f := p9e.later hb11
              have RT11 := RT9.later hb11
              have HN8 := Lib.hid HQ8.out.2.1
              have HN9 := Lib.hid HQ8.out.2.2.2
              have m1 := HD.out.m1
              have m2 := HD.out.m2
              obtain ⟨i1, hi1, hy0, hy1, hy2⟩ := info_parts pairInfo
              have d1 : Below W11.heap.size W11 (W11.alloc (.cells #[] 71)) := (Below.refl _ _).alloc (Nat.le_refl _) _
              have H8 := Lib.hid (p8f.later d1)
              have HE0 := Lib.hid (own_empty W11 71 2 W11.heap.size (Nat.le_refl _))
              have hmx1 : 0 + Q2.length ≤ maxLen := by unfold maxLen; omega
              have hmx2 : 0 + Q2.length + Q1.length ≤ maxLen := by unfold maxLen; omega
              have HQq : Hid (∀ p ∈ Q2 ++ Q1, ∃ kq : Int, (kq == 0) = false ∧ foundG (foundOf P1 P2) (pairL p) = some (.int .u8 kq) ∧ p.1 ≠ x0.r.id ∧ p.2 ≠ x0.r.id ∧ PairWf p) := Lib.hid (fun p hp => by
                rcases List.mem_append.1 hp with h | h
                · exact ⟨2, by decide, HD.out.q2 p h⟩
                · exact ⟨1, by decide, HD.out.q1 p h⟩)
              have hb10z := hb10.size
              clear p8e p9e RT9 Hl9 HQ8 p8f hwB hB hw9 hb11 k99
              go_wp2_with (first
                | (at_builtin; refine wpList_append_opt rfl (.tmp 244) (.tmp 245) 27 rfl W11.heap.size 71 i1 _ 2 16 Tryz.underlying27 hi1 hy0 hy1 hy2 rfl (by decide) _ 0 [] rfl HE0.out A8 Q2.length c8 (pairCells Q2) rfl HN8.out (pairCells_len Q2) (H8.out.news) (pairCells_one Q2) hmx1 (by omega) d1.size ?_; intro v1 wa ho1 hg1 ha1; have d2 : Below W11.heap.size W11 wa := d1.grown hg1 d1.size (fun k e => (HE0.out.lt k e).1); have H9 := Lib.hid (p9f.later d2))
                | (at_builtin; refine wpList_append_opt rfl (.tmp 246) (.tmp 247) 27 rfl W11.heap.size 71 i1 _ 2 16 Tryz.underlying27 hi1 hy0 hy1 hy2 rfl (by decide) _ _ _ rfl ho1 A9 Q1.length c9 (pairCells Q1) rfl HN9.out (pairCells_len Q1) (H9.out.news) (pairCells_one Q1) hmx2 (by omega) d2.size ?_; intro v2 wb ho2 hg2 ha2; have d3 : Below W11.heap.size W11 wb := d2.grown hg2 d2.size (fun k e => (ho1.lt k e).1); rw [Nat.zero_add, List.nil_append, ← pairCells_append, ← List.length_append] at ho2; obtain ⟨A10, c10, rfl⟩ := own_slice ho2; have pQ := Prs.of_own ho2))
              have hQl : (Q2 ++ Q1).length = Q2.length + Q1.length := List.length_append
              have HQl := Lib.hid hQl
              generalize Q2 ++ Q1 = Q at *
              have hbb : Below W10.heap.size W10 wb := hb10.trans (d3.mono hb10z)
              have RTb := RT11.later d3
              have hq5 : Q.length ≤ 2000 := by omega
              clear hg1 ha1 ho1 d1 d2 H8 H9 ho2 hg2 ha2 hQl hi1 hy0 hy1 hy2 p9f hmx1 hmx2 HN8 HN9 hb10z
              go_loopw [250] (fun jj wr => ∃ n : Nat, n ≤ Q.length ∧ jj = .int .i64 n ∧ Below wb.heap.size wb wr) (fun jj _ => Q.length - (intOf jj).toNat)
              case atStart => exact ⟨0, Nat.zero_le _, rfl, Below.refl _ _⟩
              case round =>
                obtain ⟨n, hn, rfl, hB6⟩ := hrel
                by_cases hnt : n < Q.length
                · as_aux_lemma =>
                  have hq2 := HQl.out
                  have hnl : (n : Int) < (Q2.length : Int) + (Q1.length : Int) := by omega
                  have hnl2 : n < Q2.length + Q1.length := by omega
                  clear hq2
                  obtain ⟨b3, o3, e3, hb3, r1, r2⟩ := (pQ.later hB6) n hnt
                  subst e3
                  obtain ⟨kq, hk0, hgq, hf1, hf2, hwfq⟩ := HQq.out _ (List.getElem_mem hnt)
                  generalize Q[n] = p at *
                  have hx0 : wr.cell? ⟨g2, 0, none⟩ = some (.int .i64 x0.r.id) := by
                    obtain ⟨_, _, e, _, C, _, _⟩ := (RTb.later hB6).eight (k := 0) (by simp)
                    cases e
                    simpa using C.c0
                  have hg2l : g2 < wr.heap.size := by
                    obtain ⟨_, _, e, hlt9, _⟩ := (RTb.later hB6).eight (k := 0) (by simp)
                    cases e
                    exact hlt9
                  have hlx : ∀ W, Below W10.heap.size W10 W → (Instr.lookup 69 (.map (some W9.heap.size)) (.agg #[.int .i64 p.1, .int .i64 p.2]) false).run Tryz.prog W = .ok (.int .u8 kq) W := fun W hW => by
                    have q := (HF.out.below hW HF.out.lt).look pairKeyed Tryz.underlying69 (u8ZeroP _) (pairKey hwfq)
                    rw [hgq, Option.getD_some] at q
                    exact q
                  have Hlx := Lib.hid hlx
                  have hne1 : (p.1 == x0.r.id) = false := by simpa using hf1
                  have hne2 : (p.2 == x0.r.id) = false := by simpa using hf2
                  have h0i : (0 : Int) < (l.length : Int) := by omega
                  clear hlx hgq hf1 hf2 hwfq HQq pQ
                  go_upto_region 45 with fail
                  have kp := Blk.new wr #[.int .i64 p.1, .int .i64 p.2] 71
                  have hb7 : Below wr.heap.size wr (wr.alloc (.cells #[.int .i64 p.1, .int .i64 p.2] 71)) := (Below.refl _ _).alloc (Nat.le_refl _) _
                  have hx1 : (wr.alloc (.cells #[.int .i64 p.1, .int .i64 p.2] 71)).cell? ⟨g2, 0, none⟩ = some (.int .i64 x0.r.id) := (hb7.cell (p := ⟨g2, 0, none⟩) hg2l).trans hx0
                  have hb8 : Below wb.heap.size wb (wr.alloc (.cells #[.int .i64 p.1, .int .i64 p.2] 71)) := hB6.trans (hb7.mono hB6.size)
                  have hg2m : g2 < (wr.alloc (.cells #[.int .i64 p.1, .int .i64 p.2] 71)).heap.size := Nat.lt_of_lt_of_le hg2l hb7.size
                  generalize hW1 : wr.alloc (.cells #[.int .i64 p.1, .int .i64 p.2] 71) = W1 at kp hx1 hb8 hg2m ⊢
                  clear hW1 hb7
                  have kpc := After.cells (B := W1.heap.size) kp.cell kp.lt
                  have xc := After.cell (B := W1.heap.size) hx1 hg2m
                  have lxa : ∀ z : After W1.heap.size W1, (Instr.lookup 69 (.map (some W9.heap.size)) (.agg #[.int .i64 p.1, .int .i64 p.2]) false).run Tryz.prog z.val = .ok (.int .u8 kq) z.val := fun z => Hlx.out _ ((hbb.trans (hb8.mono hbb.size)).trans (z.property.mono (Nat.le_trans hbb.size hb8.size)))
                  clear kp hx1 hx0 r1 r2 Hlx hg2m hg2l
                  refine wp_region_class_lit (C := fun w' => ∃ z : After W1.heap.size W1, w' = z.val) (by kernel_rfl) (by kernel_rfl) ⟨⟨_, (Below.refl _ _).drew⟩, rfl⟩ ?_
                  repeat (go_big_quiet_step (fail))
                  refine wpQuiet_nil ?_
                  intro wq hw'
                  obtain ⟨⟨wz, hz⟩, hw''⟩ := hw'
                  dsimp only at hw''
                  subst hw''
                  clear kpc lxa xc
                  have hfin := hb8.trans (hz.mono hb8.size)
                  go_wp2_with fail
                  go_roundw
                  case rel => exact ⟨n + 1, by omega, by go_num, hfin⟩
                  case measure => simp [intOf]; omega
                · have hq2 := HQl.out
                  have hnl : ¬ (n : Int) < (Q2.length : Int) + (Q1.length : Int) := by omega
                  clear hq2
                  have hbr := hbb.trans (hB6.mono hbb.size)
                  have RTr := RTb.later hB6
                  obtain ⟨W12, rfl⟩ : ∃ W12 : World, W12 = wr := ⟨_, rfl⟩
                  obtain ⟨D2, hownF, hatF⟩ := HF.out.below hbr HF.out.lt
                  have HatF := Lib.hid hatF
                  have hst : restL (foundOf P1 P2) x0.r.id (has D2) = 0 := restL_start hatF
                  have HST := Lib.hid hst
                  clear hatF hst pQ HQq hB6 RTb
                  go_wp2_with (at_range; go_loud (refine wpList_range_own _ rfl _ 69 rfl 71 5 pairKeyed Tryz.underlying69 rawElem W9.heap.size _ D2 rfl hownF ?_); intro w0 hrg0 hg0 hs0)
                  try go_frame
                  have hw0 : Below W12.heap.size W12 w0 := (Below.refl _ _).grown hg0 (Nat.le_refl _) (fun k e => by cases e)
                  have HR0 := Lib.hid hrg0
                  clear hownF hrg0 hg0 hs0
                  go_loopw [35] (fun rr wi => ∃ (z : Int) (left : Lit → Bool) (cnt : Nat), rr = .int .i64 z ∧ Hid (z = (restL (foundOf P1 P2) x0.r.id left : Int) ∧ wi.ranges Tryz.prog 71 rawElem W9.heap.size W12.heap.size (foundOf P1 P2).length D2 left cnt ∧ Below W12.heap.size W12 wi)) (fun _ wi => wi.rangeLeft W9.heap.size W12.heap.size)
                  case atStart => exact ⟨0, _, _, rfl, Lib.hid ⟨by rw [HST.out]; rfl, HR0.out, hw0⟩⟩
                  case round =>
                    obtain ⟨z, left, cnt, rfl, hR4⟩ := hrel
                    obtain ⟨hzr, hrg, hb13⟩ := hR4.out
                    have Hzr := Lib.hid hzr
                    have Hrg := Lib.hid hrg
                    clear hR4 HR0 hw0 hrg hzr HST
                    go_wp2_with (at_next; go_loud (refine wpList_next_ranges _ rfl _ rfl 71 pairKeyed rawElem (fun u : Value => u) (fun u : Value => u) (fun key kl _ => ⟨key, rfl⟩) rawShape W9.heap.size W12.heap.size (foundOf P1 P2).length D2 left cnt rfl Hrg.out ?_ ?_))
                    · as_aux_lemma =>
                      intro _ hl0
                      have hz2 : z = (Q2.length : Int) + (Q1.length : Int) := by
                        have := HD.out.cnt
                        have h2 := Hzr.out
                        rw [restL_end hl0, this] at h2
                        omega
                      subst hz2
                      have hsq : IntKind.i64.wrap ((Q2.length : Int) + (Q1.length : Int)) = (Q2.length : Int) + (Q1.length : Int) := IntWalk.i64_in _ (by omega)
                      clear hl0 Hzr
                      go_wp2_with fail
                      go_ret
                      exact ⟨rfl, b10f.trans (((hbr.trans (hb13.mono hbr.size))).mono b10f.size)⟩
                    · as_aux_lemma =>
                      intro k1 v kl ya yb w1 cnt1 hkey hlk hv hat1 hrg1 hlt2 hg1 hs1 hen
                      have hv' := Option.some.inj hv
                      injection hv' with hv1 hv2
                      subst hv1
                      clear hv hv2
                      obtain ⟨y, hy, ek, ev⟩ := foundG_some (got_some HatF.out hat1)
                      subst ek
                      subst ev
                      obtain rfl : k1 = .agg #[.int .i64 y.1.1, .int .i64 y.1.2] := pairKeyed.inj hkey (pairKey (HD.out.wf y hy))
                      have HNx := Lib.hid (restL_next (a := x0.r.id) HD.out.wf HD.out.nodup hy hlk)
                      have hle := restL_le (foundOf P1 P2) x0.r.id left
                      have hfl : (foundOf P1 P2).length ≤ 2000 := by unfold foundOf; rw [List.length_append, List.length_map, List.length_map]; omega
                      have hwz : IntKind.i64.wrap (z + 1) = z + 1 := IntWalk.i64_in _ (by have := Hzr.out; omega)
                      have hb14 : Below W12.heap.size W12 w1 := hb13.grown hg1 hb13.size (fun k e => by have := Option.some.inj e; omega)
                      have Hrg1 := Lib.hid hrg1
                      have Hlt2 := Lib.hid hlt2
                      have hx0 : w1.cell? ⟨g2, 0, none⟩ = some (.int .i64 x0.r.id) ∧ g2 < w1.heap.size := by
                        obtain ⟨_, _, e, hlt9, C, _, _⟩ := (RTr.later hb14).eight (k := 0) (by simp)
                        cases e
                        exact ⟨by simpa using C.c0, hlt9⟩
                      have h0i : (0 : Int) < (l.length : Int) := by omega
                      generalize y.1 = p at *
                      clear hat1 hlk hkey hrg1 hg1 hs1 hlt2 hle hfl hb13 hy
                      go_upto_region 52 with fail
                      have kp := Blk.new w1 #[.int .i64 p.1, .int .i64 p.2] 71
                      have hb7 : Below w1.heap.size w1 (w1.alloc (.cells #[.int .i64 p.1, .int .i64 p.2] 71)) := (Below.refl _ _).alloc (Nat.le_refl _) _
                      have hx1 : (w1.alloc (.cells #[.int .i64 p.1, .int .i64 p.2] 71)).cell? ⟨g2, 0, none⟩ = some (.int .i64 x0.r.id) := (hb7.cell (p := ⟨g2, 0, none⟩) hx0.2).trans hx0.1
                      have hb8 : Below W12.heap.size W12 (w1.alloc (.cells #[.int .i64 p.1, .int .i64 p.2] 71)) := hb14.trans (hb7.mono hb14.size)
                      have hg2m : g2 < (w1.alloc (.cells #[.int .i64 p.1, .int .i64 p.2] 71)).heap.size := Nat.lt_of_lt_of_le hx0.2 hb7.size
                      have Hri := Lib.hid (Hrg1.out.alloc (.cells #[.int .i64 p.1, .int .i64 p.2] 71))
                      generalize hW1 : w1.alloc (.cells #[.int .i64 p.1, .int .i64 p.2] 71) = W1 at kp hx1 hb8 hg2m Hri ⊢
                      clear hW1 hb7 hen
                      have kpc := After.cells (B := W1.heap.size) kp.cell kp.lt
                      have xc := After.cell (B := W1.heap.size) hx1 hg2m
                      clear kp hx1 hx0 hg2m hb14
                      by_cases h1 : p.1 = x0.r.id
                      · have hg1 : (p.1 != x0.r.id) = false := by simp [h1]
                        have hfar : ¬ farB x0.r.id p = true := by simp [farB, h1]
                        clear h1
                        refine wp_region_class_lit (C := fun w' => ∃ z : After W1.heap.size W1, w' = z.val) (by kernel_rfl) (by kernel_rfl) ⟨⟨_, (Below.refl _ _).drew⟩, rfl⟩ ?_
                        repeat (go_big_quiet_step (fail))
                        refine wpQuiet_nil ?_
                        intro wq hw'
                        obtain ⟨⟨wz, hz⟩, hw''⟩ := hw'
                        dsimp only at hw''
                        subst hw''
                        clear kpc xc
                        have hrz := Hri.out.kept (grown_of_below hz) (by simp) (by simp)
                        have hfin := hb8.trans (hz.mono hb8.size)
                        go_wp2_with fail
                        go_roundw
                        case rel => exact ⟨z, _, _, rfl, Lib.hid ⟨by rw [HNx.out, if_neg hfar]; have := Hzr.out; omega, hrz, hfin⟩⟩
                        case measure => rw [hrz.left_eq, Hrg.out.left_eq]; exact Hlt2.out
                      · have hg1 : (p.1 != x0.r.id) = true := by simpa using h1
                        by_cases h2 : p.2 = x0.r.id
                        · have hg2 : (p.2 != x0.r.id) = false := by simp [h2]
                          have hfar : ¬ farB x0.r.id p = true := by simp [farB, h2]
                          clear h1 h2
                          refine wp_region_class_lit (C := fun w' => ∃ z : After W1.heap.size W1, w' = z.val) (by kernel_rfl) (by kernel_rfl) ⟨⟨_, (Below.refl _ _).drew⟩, rfl⟩ ?_
                          repeat (go_big_quiet_step (fail))
                          refine wpQuiet_nil ?_
                          intro wq hw'
                          obtain ⟨⟨wz, hz⟩, hw''⟩ := hw'
                          dsimp only at hw''
                          subst hw''
                          clear kpc xc
                          have hrz := Hri.out.kept (grown_of_below hz) (by simp) (by simp)
                          have hfin := hb8.trans (hz.mono hb8.size)
                          go_wp2_with fail
                          go_roundw
                          case rel => exact ⟨z, _, _, rfl, Lib.hid ⟨by rw [HNx.out, if_neg hfar]; have := Hzr.out; omega, hrz, hfin⟩⟩
                          case measure => rw [hrz.left_eq, Hrg.out.left_eq]; exact Hlt2.out
                        · have hg2 : (p.2 != x0.r.id) = true := by simpa using h2
                          have hfar : farB x0.r.id p = true := by simp [farB, h1, h2]
                          clear h1 h2
                          refine wp_region_class_lit (C := fun w' => ∃ z : After W1.heap.size W1, w' = z.val) (by kernel_rfl) (by kernel_rfl) ⟨⟨_, (Below.refl _ _).drew⟩, rfl⟩ ?_
                          repeat (go_big_quiet_step (fail))
                          refine wpQuiet_nil ?_
                          intro wq hw'
                          obtain ⟨⟨wz, hz⟩, hw''⟩ := hw'
                          dsimp only at hw''
                          subst hw''
                          clear kpc xc
                          have hrz := Hri.out.kept (grown_of_below hz) (by simp) (by simp)
                          have hfin := hb8.trans (hz.mono hb8.size)
                          go_wp2_with fail
                          go_roundw
                          case rel => exact ⟨z + 1, _, _, rfl, Lib.hid ⟨by rw [HNx.out, if_pos hfar]; have := Hzr.out; omega, hrz, hfin⟩⟩
                          case measure => rw [hrz.left_eq, Hrg.out.left_eq]; exact Hlt2.out
            · as_aux_lemma =>
              intro k1 v kl ya yb w1 cnt1 hkey hlk hv hat1 hrg1 hlt2 hg1 hs1 hen
              obtain ⟨p, ep, rfl, hwp⟩ := Maps.keyOf_int_inv Tryz.underlying3 hkey
              injection ep with _ ep
              subst ep
              have hv' := Option.some.inj hv
              injection hv' with hv1 hv2
              subst hv1
              clear hv hv2
              obtain ⟨x, hx, ek, ev⟩ := byG_some (got_some HatB.out hat1)
              injection ek with _ ek
              subst ek
              subst ev
              have hb1 : Below W10.heap.size W10 w1 := hb10.grown hg1 hb10.size (fun k e => by have := Option.some.inj e; omega)
              have hrg2 := hrg1.alloc (.cells #[.int .i64 x.r.id, .slice x.A x.r.names.length x.c, .int .u8 x.r.suf, .int .i64 x.r.lo, .int .i64 x.r.hi, .string x.r.num, .bool x.r.twin, .slice x.D x.r.stays.length x.d] 47)
              have hownB2 := hrg2.owns
              have kx := Blk.new w1 #[.int .i64 x.r.id, .slice x.A x.r.names.length x.c, .int .u8 x.r.suf, .int .i64 x.r.lo, .int .i64 x.r.hi, .string x.r.num, .bool x.r.twin, .slice x.D x.r.stays.length x.d] 47
              have hbm : Below W10.heap.size W10 (w1.alloc (.cells #[.int .i64 x.r.id, .slice x.A x.r.names.length x.c, .int .u8 x.r.suf, .int .i64 x.r.lo, .int .i64 x.r.hi, .string x.r.num, .bool x.r.twin, .slice x.D x.r.stays.length x.d] 47)) := hb1.alloc hb1.size _
              have Hrg2 := Lib.hid hrg2
              have Hlt2 := Lib.hid hlt2
              clear hat1 hlk hkey hrg1 hg1 hs1 hrg2 hb1 hlt2
              go_wp2_with (at_range; refine wpList_range_own _ rfl _ 68 rfl 3 47 (int_keyed Tryz.underlying3) Tryz.underlying68 rawElem w9.heap.size _ D1 rfl hownB2 ?_; intro w3 hrg3 hg3 hs3)
              try go_frame
              obtain ⟨wm, hwm⟩ : ∃ wm : World, w1.alloc (.cells #[.int .i64 x.r.id, .slice x.A x.r.names.length x.c, .int .u8 x.r.suf, .int .i64 x.r.lo, .int .i64 x.r.hi, .string x.r.num, .bool x.r.twin, .slice x.D x.r.stays.length x.d] 47) = wm := ⟨_, rfl⟩
              have hwmz : w1.heap.size + 1 = wm.heap.size := by rw [← hwm]; simp
              rw [hwm] at hrg3 hg3 Hrg2 kx hbm
              have hb3 : Below wm.heap.size wm w3 := (Below.refl _ _).grown hg3 (Nat.le_refl _) (fun k e => by cases e)
              rw [← hwmz] at hrg3
              have HR3 := Lib.hid hrg3
              have Hwmz := Lib.hid hwmz
              have kx3 : w1.heap.size < wm.heap.size := by omega
              clear hownB2 hrg3 hg3 hs3 hen
              try rw [hwm]
              clear hwm hwmz
              go_loopw [] (fun wi => ∃ (left2 : Lit → Bool) (cnt2 : Nat), Hid (wi.ranges Tryz.prog 3 rawElem w9.heap.size (w1.heap.size + 1) l.length D1 left2 cnt2 ∧ Below wm.heap.size wm wi)) (fun wi => wi.rangeLeft w9.heap.size (w1.heap.size + 1))
              case atStart => exact ⟨_, _, Lib.hid ⟨HR3.out, hb3⟩⟩
              case round =>
                obtain ⟨left2, cnt2, hR5⟩ := hrel
                obtain ⟨hrgi, hbi⟩ := hR5.out
                have Hrgi := Lib.hid hrgi
                clear hR5 HR3 hb3 hrgi
                go_wp2_with (at_next; go_loud (refine wpList_next_ranges _ rfl _ rfl 3 (int_keyed Tryz.underlying3) rawElem (Value.int .i64) (fun u : Value => u) intKeyShape rawShape w9.heap.size (w1.heap.size + 1) l.length D1 left2 cnt2 rfl Hrgi.out ?_ ?_))
                · intro _ hl0
                  clear hl0
                  have hro := Hrg2.out.kept (grown_of_below hbi) (by simp) (by simp)
                  have hbo := hbm.trans (hbi.mono hbm.size)
                  go_wp2_with fail
                  go_roundw
                  case rel => exact ⟨_, _, Lib.hid ⟨hro, hbo⟩⟩
                  case measure => rw [hro.left_eq, Hrg.out.left_eq]; exact Hlt2.out
                · as_aux_lemma =>
                  intro k2 v2 kl2 ya2 yb2 w5 cnt5 hkey2 hlk2 hv2 hat2 hrg5 hlt5 hg5 hs5 hen5
                  obtain ⟨p2, ep2, rfl, hwp2⟩ := Maps.keyOf_int_inv Tryz.underlying3 hkey2
                  injection ep2 with _ ep2
                  subst ep2
                  have hv' := Option.some.inj hv2
                  injection hv' with hv1 hv3
                  subst hv1
                  clear hv2 hv3
                  obtain ⟨y, hy, ek, ev⟩ := byG_some (got_some HatB.out hat2)
                  injection ek with _ ek
                  subst ek
                  subst ev
                  have hb5 : Below wm.heap.size wm w5 := hbi.grown hg5 hbi.size (fun k e => by have := Option.some.inj e; have := Hwmz.out; omega)
                  have Hrg5 := Lib.hid hrg5
                  have Hlt5 := Lib.hid hlt5
                  clear hat2 hlk2 hkey2 hg5 hs5 hlt5 hrg5
                  have hb6 : Below wm.heap.size wm (w5.alloc (.cells #[.int .i64 y.r.id, .slice y.A y.r.names.length y.c, .int .u8 y.r.suf, .int .i64 y.r.lo, .int .i64 y.r.hi, .string y.r.num, .bool y.r.twin, .slice y.D y.r.stays.length y.d] 47)) := hb5.alloc hb5.size _
                  have hb9 : Below w9.heap.size w9 (w5.alloc (.cells #[.int .i64 y.r.id, .slice y.A y.r.names.length y.c, .int .u8 y.r.suf, .int .i64 y.r.lo, .int .i64 y.r.hi, .string y.r.num, .bool y.r.twin, .slice y.D y.r.stays.length y.d] 47)) := hwB.trans ((hbm.trans (hb6.mono hbm.size)).mono hwB.size)
                  have krc := (k99.below hb9 k99.lt).cell
                  have kxc := (kx.below hb6 kx3).cell
                  have hCmp := Lib.hid (HC.out x hx y hy _ (HR9.out _ hb9 x hx).1 (HR9.out _ hb9 y hy).1)
                  have hlx : ∀ W, Below W10.heap.size W10 W → (Instr.lookup 69 (.map (some W9.heap.size)) (.agg #[.int .i64 x.r.id, .int .i64 y.r.id]) false).run Tryz.prog W = .ok ((foundG (foundOf P1 P2) (pairL (x.r.id, y.r.id))).getD (.int .u8 0)) W := fun W hW => (HF.out.below hW HF.out.lt).look pairKeyed Tryz.underlying69 (u8ZeroP _) (pairKey (p := (x.r.id, y.r.id)) ⟨hwp, hwp2⟩)
                  have hbx := hbm.trans (hb6.mono hbm.size)
                  by_cases hid : x.r.id < y.r.id
                  · have hgt := HD.out.at_ x hx y hy hid
                    generalize matF u x.r y.r = M at hCmp hgt
                    rw [hgt] at hlx
                    have Hlx := Lib.hid hlx
                    have hd1 : decide (x.r.id < y.r.id) = true := decide_eq_true hid
                    have hd2 : decide (y.r.id ≤ x.r.id) = false := decide_eq_false (by omega)
                    clear hlx hgt hid
                    go_upto_region 40 with (go_at_call 23; (with_reducible refine (hCmp.out).mono ?_); rintro e w6 ⟨rfl, h6⟩)
                    have kM := Blk.new w6 #[.int .u8 M.names, .int .u8 M.num, .int .u8 M.born, .int .u8 M.place, .int .u8 M.one] 54
                    have hb7 : Below wm.heap.size wm (w6.alloc (.cells #[.int .u8 M.names, .int .u8 M.num, .int .u8 M.born, .int .u8 M.place, .int .u8 M.one] 54)) := (hb6.trans (h6.mono hb6.size)).alloc (by have := hb6.size; have := h6.size; omega) _
                    have hb7x : Below W10.heap.size W10 (w6.alloc (.cells #[.int .u8 M.names, .int .u8 M.num, .int .u8 M.born, .int .u8 M.place, .int .u8 M.one] 54)) := (hbx.trans (h6.mono hbx.size)).alloc (by have := hbx.size; have := h6.size; omega) _
                    have Hri := Lib.hid (((Hrg5.out.alloc (.cells #[.int .i64 y.r.id, .slice y.A y.r.names.length y.c, .int .u8 y.r.suf, .int .i64 y.r.lo, .int .i64 y.r.hi, .string y.r.num, .bool y.r.twin, .slice y.D y.r.stays.length y.d] 47)).kept (grown_of_below h6) (by simp) (by simp)).alloc (.cells #[.int .u8 M.names, .int .u8 M.num, .int .u8 M.born, .int .u8 M.place, .int .u8 M.one] 54))
                    generalize hW1 : w6.alloc (.cells #[.int .u8 M.names, .int .u8 M.num, .int .u8 M.born, .int .u8 M.place, .int .u8 M.one] 54) = W1 at kM hb7 hb7x Hri ⊢
                    clear hW1
                    have kMc := After.cells (B := W1.heap.size) kM.cell kM.lt
                    have lxa : ∀ z : After W1.heap.size W1, (Instr.lookup 69 (.map (some W9.heap.size)) (.agg #[.int .i64 x.r.id, .int .i64 y.r.id]) false).run Tryz.prog z.val = .ok (.int .u8 M.one) z.val := fun z => Hlx.out _ (hb7x.trans (z.property.mono hb7x.size))
                    clear kM hb7x h6 hb6 hbx krc kxc hb5 hb9 Hlx
                    refine wp_region_class_lit (C := fun w' => ∃ z : After W1.heap.size W1, w' = z.val) (by kernel_rfl) (by kernel_rfl) ⟨⟨_, (Below.refl _ _).drew⟩, rfl⟩ ?_
                    repeat (go_big_quiet_step (fail))
                    refine wpQuiet_nil ?_
                    intro wq hw'
                    obtain ⟨⟨wz, hz⟩, hw''⟩ := hw'
                    dsimp only at hw''
                    subst hw''
                    clear kMc lxa
                    have hrz := Hri.out.kept (grown_of_below hz) (by simp) (by simp)
                    have hfin := hb7.trans (hz.mono hb7.size)
                    go_wp2_with fail
                    go_roundw
                    case rel => exact ⟨_, _, Lib.hid ⟨hrz, hfin⟩⟩
                    case measure => rw [hrz.left_eq, Hrgi.out.left_eq]; exact Hlt5.out
                  · have hgt := HD.out.not_ x hx y hy (by omega)
                    generalize matF u x.r y.r = M at hCmp
                    rw [hgt, Option.getD_none] at hlx
                    have Hlx := Lib.hid hlx
                    have hd1 : decide (x.r.id < y.r.id) = false := decide_eq_false hid
                    have hd2 : decide (y.r.id ≤ x.r.id) = true := decide_eq_true (by omega)
                    clear hlx hgt hid
                    go_upto_region 40 with (go_at_call 23; (with_reducible refine (hCmp.out).mono ?_); rintro e w6 ⟨rfl, h6⟩)
                    have kM := Blk.new w6 #[.int .u8 M.names, .int .u8 M.num, .int .u8 M.born, .int .u8 M.place, .int .u8 M.one] 54
                    have hb7 : Below wm.heap.size wm (w6.alloc (.cells #[.int .u8 M.names, .int .u8 M.num, .int .u8 M.born, .int .u8 M.place, .int .u8 M.one] 54)) := (hb6.trans (h6.mono hb6.size)).alloc (by have := hb6.size; have := h6.size; omega) _
                    have hb7x : Below W10.heap.size W10 (w6.alloc (.cells #[.int .u8 M.names, .int .u8 M.num, .int .u8 M.born, .int .u8 M.place, .int .u8 M.one] 54)) := (hbx.trans (h6.mono hbx.size)).alloc (by have := hbx.size; have := h6.size; omega) _
                    have Hri := Lib.hid (((Hrg5.out.alloc (.cells #[.int .i64 y.r.id, .slice y.A y.r.names.length y.c, .int .u8 y.r.suf, .int .i64 y.r.lo, .int .i64 y.r.hi, .string y.r.num, .bool y.r.twin, .slice y.D y.r.stays.length y.d] 47)).kept (grown_of_below h6) (by simp) (by simp)).alloc (.cells #[.int .u8 M.names, .int .u8 M.num, .int .u8 M.born, .int .u8 M.place, .int .u8 M.one] 54))
                    generalize hW1 : w6.alloc (.cells #[.int .u8 M.names, .int .u8 M.num, .int .u8 M.born, .int .u8 M.place, .int .u8 M.one] 54) = W1 at kM hb7 hb7x Hri ⊢
                    clear hW1
                    have kMc := After.cells (B := W1.heap.size) kM.cell kM.lt
                    have lxa : ∀ z : After W1.heap.size W1, (Instr.lookup 69 (.map (some W9.heap.size)) (.agg #[.int .i64 x.r.id, .int .i64 y.r.id]) false).run Tryz.prog z.val = .ok (.int .u8 0) z.val := fun z => Hlx.out _ (hb7x.trans (z.property.mono hb7x.size))
                    clear kM hb7x h6 hb6 hbx krc kxc hb5 hb9 Hlx
                    refine wp_region_class_lit (C := fun w' => ∃ z : After W1.heap.size W1, w' = z.val) (by kernel_rfl) (by kernel_rfl) ⟨⟨_, (Below.refl _ _).drew⟩, rfl⟩ ?_
                    repeat (go_big_quiet_step (fail))
                    refine wpQuiet_nil ?_
                    intro wq hw'
                    obtain ⟨⟨wz, hz⟩, hw''⟩ := hw'
                    dsimp only at hw''
                    subst hw''
                    clear kMc lxa
                    have hrz := Hri.out.kept (grown_of_below hz) (by simp) (by simp)
                    have hfin := hb7.trans (hz.mono hb7.size)
                    go_wp2_with fail
                    go_roundw
                    case rel => exact ⟨_, _, Lib.hid ⟨hrz, hfin⟩⟩
                    case measure => rw [hrz.left_eq, Hrgi.out.left_eq]; exact Hlt5.out

end Go.Proofs.YtbkmfomdhjhkpaaGreat
