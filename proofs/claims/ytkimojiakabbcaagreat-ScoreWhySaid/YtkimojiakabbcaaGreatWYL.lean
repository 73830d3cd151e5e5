/- ScoreWhy: the law returns true for any model, values, and other values of some traits. Written by a program. -/
import Derived.Test.YtkimojiakabbcaaGreatWP4
import Derived.Test.YtkimojiakabbcaaGreatRDat

namespace Go.Proofs.YtkimojiakabbcaaGreat
open Go.RowKit Go.Maps

/-- What the law asks of the reasons. -/
structure WhyF (m : Mdl) (x s v : List Int) (er : Int) : Prop where
  er2 : er = 6 ∨ er = 0
  none_ : er = 6 → s = [] ∧ v = []
  ok : ∀ (b : Nat) (y : List Int), y.length = x.length → (∀ k, k < x.length → (bitN b k = true → 0 ≤ y.getD k 0 ∧ y.getD k 0 ≤ 1000000) ∧ (bitN b k = false → y.getD k 0 = x.getD k 0)) → forE m y = 0 ∧ (er = 6 → scY m y = scY m x) ∧ (er = 0 → scY m y ≠ scY m x → s.length ≤ (setB b x.length).length ∧ (∀ i, i < s.length → (setB b x.length).length = s.length → (∀ j, j < i → (setB b x.length).getD j 0 = s.getD j 0) → (setB b x.length).getD i 0 ≠ s.getD i 0 → s.getD i 0 < (setB b x.length).getD i 0) ∧ (setB b x.length = s → ∀ i, i < s.length → (∀ j, j < i → y.getD (s.getD j 0).toNat 0 = v.getD j 0) → y.getD (s.getD i 0).toNat 0 ≠ v.getD i 0 → v.getD i 0 < y.getD (s.getD i 0).toNat 0))
  some_ : er = 0 → s ≠ [] ∧ v.length = s.length ∧ s.length ≤ x.length ∧ (∀ i, i < s.length → ∃ k : Nat, s.getD i 0 = k ∧ k < x.length ∧ (∀ j, j < i → s.getD j 0 < k) ∧ 0 ≤ v.getD i 0 ∧ v.getD i 0 ≤ 1000000 ∧ v.getD i 0 ≠ x.getD k 0)
  back : er = 0 → ∀ z : List Int, z.length = x.length → (∀ i, i < s.length → z.getD (s.getD i 0).toNat 0 = v.getD i 0) → (∀ k, k < x.length → (∀ i, i < s.length → s.getD i 0 ≠ k) → z.getD k 0 = x.getD k 0) → forE m z = 0 ∧ scY m z ≠ scY m x
/-- Two lists of numbers, and an error. -/
def ReaP (W : World) (s v : List Int) (er : Int) (e : Ending) (w' : World) : Prop := ∃ A' a' B' b', e = .returned (.tuple #[.slice A' s.length a', .slice B' v.length b', .int .i64 er]) ∧ IntsAt w' w'.heap.size A' s ∧ IntsAt w' w'.heap.size B' v ∧ Below W.heap.size W w'
/-- The loop's list: its first i values are others where the set says so. -/
def YI (b : Nat) (i : Nat) (x ys : List Int) : Prop := ys.length = x.length ∧ (∀ k, k < i → (bitN b k = true → 0 ≤ ys.getD k 0 ∧ ys.getD k 0 ≤ 1000000) ∧ (bitN b k = false → ys.getD k 0 = x.getD k 0)) ∧ ∀ k, i ≤ k → ys.getD k 0 = x.getD k 0
/-- The list with the reasons' values in it, up to the i-th. -/
def ZI (s v : List Int) (i : Nat) (x zs : List Int) : Prop := zs.length = x.length ∧ (∀ j, j < i → zs.getD (s.getD j 0).toNat 0 = v.getD j 0) ∧ ∀ k, k < x.length → (∀ j, j < i → s.getD j 0 ≠ k) → zs.getD k 0 = x.getD k 0
theorem getD_neY {l : List Int} {i k : Nat} {v : Int} (h : i ≠ k) : (l.set i v).getD k 0 = l.getD k 0 := by
  rw [List.getD_eq_getElem?_getD, List.getD_eq_getElem?_getD, List.getElem?_set_ne h]
theorem getD_eqY {l : List Int} {i : Nat} {v : Int} (h : i < l.length) : (l.set i v).getD i 0 = v := by
  rw [List.getD_eq_getElem?_getD, List.getElem?_set_self h]; rfl
theorem YI.set {b i : Nat} {x ys : List Int} {u : Int} (h : YI b i x ys) (hb : bitN b i = true) (hi : i < x.length) (h0 : 0 ≤ u) (h1 : u ≤ 1000000) : YI b (i + 1) x (ys.set i u) := by
  refine ⟨by rw [List.length_set]; exact h.1, fun k hk => ?_, fun k hk => ?_⟩
  · rcases Nat.lt_or_ge k i with h9 | h9
    · rw [getD_neY (by omega)]; exact h.2.1 k h9
    · obtain rfl : k = i := by omega
      rw [getD_eqY (by rw [h.1]; exact hi)]
      exact ⟨fun _ => ⟨h0, h1⟩, (fun e => by rw [hb] at e; cases e)⟩
  · rw [getD_neY (by omega)]; exact h.2.2 k (by omega)
theorem own_besideY {w w' : World} {base : Nat} {e : TypeId} {size n : Nat} {v u : Value} {xs : List Value} (h : w.ownsRow base e size v n xs) (hg : w.grownBy w' u.ownBlock) (hne : ∀ g, u.ownBlock = some g → v.ownBlock ≠ some g) : w'.ownsRow base e size v n xs := by
  refine h.kept hg ?_
  cases hv : v.ownBlock with
  | none => exact .inl rfl
  | some g => exact .inr fun e => hne g e.symm hv
theorem int_newY (W : World) (x : Value) (t : TypeId) : ∀ ad, (some ⟨W.heap.size, 0, none⟩ : Option Addr) = some ad → ∀ j u, [x][j]? = some u → (W.alloc (.cells #[x] t)).cell? (ad.add j) = some u := fun ad e j u hj => by
  cases e
  rw [WideShapes.add_plain, Nat.zero_add]
  refine ((Blk.new W #[x] t).cell j).trans ?_
  rw [← hj]; simp
theorem bit8_fin : ∀ (b : Fin 256) (k : Fin 5), (bits BinOp.and IntKind.u8 ((b.val : Int) / 2 ^ k.val) 1 == 1) = bitN b.val k.val := by decide +kernel
theorem bit8 {b k : Nat} (hb : b < 256) (hk : k < 5) : (bits BinOp.and IntKind.u8 ((b : Int) / 2 ^ k) 1 == 1) = bitN b k := bit8_fin ⟨b, hb⟩ ⟨k, hk⟩
theorem cell_set {W : World} {lo gy n c : Nat} {ys : List Int} (h : W.ownsRow lo 3 1 (.slice (some ⟨gy, 0, none⟩) n c) n (ys.flatMap intC)) (hl : ys.length = n) {i : Nat} (hi : i < n) (u : Int) :
    W.cell? ⟨gy, i, none⟩ = some (.int .i64 (ys.getD i 0)) ∧ W.frozen? ⟨gy, i, none⟩ = false ∧ (W.setCell ⟨gy, i, none⟩ (.int .i64 u)).ownsRow lo 3 1 (.slice (some ⟨gy, 0, none⟩) n c) n ((ys.set i u).flatMap intC) := by
  refine ⟨?_, h.frozenAt i, ?_⟩
  · have h9 := flat_get intC_len ys i (by omega) 0 (by decide)
    rw [Nat.mul_one, Nat.add_zero] at h9
    rw [h.cellAt i (by omega), h9, getD_lt _ _ (by omega)]; rfl
  · have h9 := flat_set intC_len ys i (by omega) u 0 (.int .i64 u) (by decide) rfl
    rw [Nat.mul_one, Nat.add_zero] at h9
    rw [h9]
    exact (h.stored i (.int .i64 u)).1

set_option maxRecDepth 100000 in
set_option maxHeartbeats 8000000 in
theorem scoreWhy_any (traits need : Int) (cl : List CrdD) (tl : List TreD) (C T : Option Addr) (c t : Nat) (x : List Int) (X : Option Addr) (xc : Nat) (b : Nat) (l : List Int) (L : Option Addr) (lc : Nat) (s v : List Int) (er : Int) (w : World) (h : MdlAt w w.heap.size ⟨traits, cl, C, c, tl, T, t, need⟩) (hx : IntsAt w w.heap.size X x) (hxm : x.length ≤ maxLen) (hb8 : b < 256) (hl : U32At w w.heap.size L l) (hlm : l.length ≤ maxLen) (hlb : ∀ z ∈ l, 0 ≤ z ∧ z < 4294967296)
    (HAL : ∀ (W : World), Calls Tryz.prog 11 #[] W fun e w' => e = .returned (.bool true) ∧ Below W.heap.size W w')
    (HSC : ∀ (W : World) (Y1 : Option Addr) (y1 : Nat) (ys : List Int), MdlAt W W.heap.size ⟨traits, cl, C, c, tl, T, t, need⟩ → MdlLe ⟨traits, cl, C, c, tl, T, t, need⟩ → IntsAt W W.heap.size Y1 ys → ys.length ≤ 10 → Calls Tryz.prog 12 #[.agg #[.int .i64 traits, .slice C cl.length c, .slice T tl.length t, .int .i64 need], .slice Y1 ys.length y1] W fun e w' => e = .returned (.tuple #[.int .i64 (scN ⟨traits, cl.map CrdD.v, tl.map TreD.v, need⟩ ys), .bool (scY ⟨traits, cl.map CrdD.v, tl.map TreD.v, need⟩ ys), .int .i64 (forE ⟨traits, cl.map CrdD.v, tl.map TreD.v, need⟩ ys)]) ∧ Below W.heap.size W w')
    (HRC : mdlB ⟨traits, cl.map CrdD.v, tl.map TreD.v, need⟩ = true → valsB traits x = true → ∀ (W : World), MdlAt W W.heap.size ⟨traits, cl, C, c, tl, T, t, need⟩ → MdlLe ⟨traits, cl, C, c, tl, T, t, need⟩ → IntsAt W W.heap.size X x → x.length ≤ 10 → Calls Tryz.prog 15 #[.agg #[.int .i64 traits, .slice C cl.length c, .slice T tl.length t, .int .i64 need], .slice X x.length xc] W (ReaP W s v er))
    (HWH : mdlB ⟨traits, cl.map CrdD.v, tl.map TreD.v, need⟩ = true → valsB traits x = true → WhyF ⟨traits, cl.map CrdD.v, tl.map TreD.v, need⟩ x s v er) :
    Calls Tryz.prog 7 #[.agg #[.int .i64 traits, .slice C cl.length c, .slice T tl.length t, .int .i64 need], .slice X x.length xc, .int .u8 b, .slice L l.length lc] w fun e w' => e = .returned (.bool true) ∧ Below w.heap.size w w' := by
  have b1 := (Below.refl w.heap.size w).alloc (Nat.le_refl _) (.cells #[.int .i64 traits, .slice C cl.length c, .slice T tl.length t, .int .i64 need] 29)
  have k1 := Blk.new w #[.int .i64 traits, .slice C cl.length c, .slice T tl.length t, .int .i64 need] 29
  have HRd := Lib.hid (fun W hb => ready_all traits need cl tl C T c t x X xc W (h.later hb) (hx.later hb) hxm)
  have HAl := Lib.hid HAL
  have q1 := k1.lt
  have k1c := k1.cell
  have hxm1 : IntKind.i64.wrap (x.length : Int) = (x.length : Int) := by unfold maxLen at hxm; exact IntWalk.i64_in _ (by omega)
  clear HAL
  cases hr : rdyB ⟨traits, cl, C, c, tl, T, t, need⟩ ⟨traits, cl.map CrdD.v, tl.map TreD.v, need⟩ x with
  | false =>
    rw [hr] at HRd
    clear h hx hl HSC HRC HWH hr
    go_enter Tryz.func7, Tryz.ntmps7
    go_wp2_with (first
      | (go_at_call 11; (with_reducible refine (HAl.out _).mono ?_); rintro e w1 ⟨rfl, h1⟩; have b2 := b1.trans (h1.mono b1.size); have k2c := (k1.below h1 q1).cell)
      | (go_at_call 24; (with_reducible refine (HRd.out _ b2).mono ?_); rintro e w2 ⟨rfl, h2⟩))
    go_ret
    exact ⟨rfl, b2.trans (h2.mono b2.size)⟩
  | true =>
    rw [hr] at HRd
    unfold rdyB at hr
    simp only [Bool.and_eq_true] at hr
    obtain ⟨hg, hM, hv⟩ := hr
    have hls := mdlLe_of hg
    have htr := (mdlB_parts hM).1
    have hvl : (x.length : Int) = traits := by unfold valsB at hv; simp only [Bool.and_eq_true, decide_eq_true_eq] at hv; exact hv.1
    have hx1 : 1 ≤ x.length := by dsimp only at htr; omega
    have hx5 : x.length ≤ 5 := by dsimp only at htr; omega
    have HW := Lib.hid (HWH hM hv)
    have hF : forE ⟨traits, cl.map CrdD.v, tl.map TreD.v, need⟩ x = 0 := by unfold forE; rw [if_pos hM]; exact if_pos hv
    have Hh := Lib.hid (fun W (hb : Below w.heap.size w W) => h.later hb)
    have Hx := Lib.hid (fun W (hb : Below w.heap.size w W) => hx.later hb)
    have Hl := Lib.hid (fun W (hb : Below w.heap.size w W) => hl.later hb)
    have Hsc := Lib.hid (fun W Y1 y1 ys hb => HSC W Y1 y1 ys (h.later hb) hls)
    have Hs0 := Lib.hid (fun W hb => by
      have h9 := HSC W X xc x (h.later hb) hls (hx.later hb) (by omega)
      rw [hF] at h9
      exact h9)
    have Hrc := Lib.hid (fun W hb => HRC hM hv W (h.later hb) hls (hx.later hb) (by omega))
    have htl : ∀ k, k < x.length → ∀ y ∈ cl, k < y.scales.length := fun k hk y hy => by
      have := (crdB_parts ((mdlB_parts hM).2.2.2.2.1 _ (List.mem_map_of_mem hy))).2.2.1
      simp only [CrdD.v, List.length_map] at this
      omega
    have HSt := Lib.hid (fun W (hb : Below w.heap.size w W) (k : Nat) (hk : k < x.length) => stepsR_all traits need cl tl C T c t k W (h.later hb) hls (htl k hk))
    have HSf : Hid (∀ k, k < x.length → (stepsI 0 1000000 (cutsT ⟨traits, cl.map CrdD.v, tl.map TreD.v, need⟩ k)).length ≤ 100000 ∧ stepsI 0 1000000 (cutsT ⟨traits, cl.map CrdD.v, tl.map TreD.v, need⟩ k) ≠ []) := Lib.hid (fun k hk => stepsI_fit 0 1000000 _ (by
      have e1 := flatMap_leR (f := fcC k) (l := cl) (fun y hy => fcC_len (m := ⟨traits, cl, C, c, tl, T, t, need⟩) hls hy (htl k hk y hy))
      have e2 := flatMap_leR (f := ftC k) (l := tl) (fun y hy => ftC_len (m := ⟨traits, cl, C, c, tl, T, t, need⟩) hls hy)
      have e3 := hls.cards
      have e4 := hls.trees
      dsimp only at e3 e4
      rw [cutsT_eq, List.length_append]
      omega))
    have Hlb := Lib.hid hlb
    have Hlm := Lib.hid hlm
    clear h hx hl HSC HRC HWH hg hM hv hls htr hvl hlb hlm htl hF
    go_enter Tryz.func7, Tryz.ntmps7
    go_upto_region 6 with (first
      | (go_at_call 11; (with_reducible refine (HAl.out _).mono ?_); rintro e w1 ⟨rfl, h1⟩; have b2 := b1.trans (h1.mono b1.size); have k2 := k1.below h1 q1; have k2c := k2.cell)
      | (go_at_call 24; (with_reducible refine (HRd.out _ b2).mono ?_); rintro e w2 ⟨rfl, h2⟩; have b3 := b2.trans (h2.mono b2.size); have k3 := k2.below h2 k2.lt; have k3c := k3.cell))
    clear k1c k2c k1 k2 h1 h2 b1 b2 HRd HAl
    go_upto_region 7 with (go_at_call 12; (with_reducible refine (Hs0.out _ b3).mono ?_); rintro e w4 ⟨rfl, h4⟩)
    have b4 := b3.trans (h4.mono b3.size)
    have k4 := k3.below h4 k3.lt
    have k4c := k4.cell
    clear b3 k3 k3c h4 Hs0
    generalize scN ⟨traits, cl.map CrdD.v, tl.map TreD.v, need⟩ x = n0 at *
    go_upto_region 11 with (go_at_call 15; (with_reducible refine (Hrc.out _ b4).mono ?_); rintro e w2 ⟨RA, ra, RB, rb, rfl, hRA, hRB, h5⟩)
    have b5 := b4.trans (h5.mono b4.size)
    have k5 := k4.below h5 k4.lt
    have HRA := Lib.hid hRA
    have HRB := Lib.hid hRB
    clear b4 k4 k4c h5 Hrc hRA hRB
    have HB3 := Lib.hid b5
    have HK3 := Lib.hid k5
    have HX3 := Hx.out _ b5
    obtain ⟨bX, oX, rfl, -, -⟩ := HX3 0 (by omega)
    have hE1 := own_empty w2 3 1 w2.heap.size (Nat.le_refl _)
    have D1 := (Below.refl w2.heap.size w2).alloc (Nat.le_refl _) (.cells #[] 3)
    have HX1 := Lib.hid (HX3.later D1)
    obtain ⟨i0, hi0, hy0, hy1, hy2⟩ := info_parts intInfo
    clear HX3 b5 k5
    go_upto_region 12 with (at_builtin; refine wpList_append_src _ rfl (.tmp 56) (.tmp 57) 31 rfl w2.heap.size 3 i0 _ 1 8 Tryz.underlying31 hi0 hy0 hy1 hy2 rfl (by decide) _ 0 [] rfl hE1 _ x.length xc (x.flatMap intC) rfl (by rw [flat_len intC_len]) (fun e => by cases e) (Flat.news intC_len (by decide) HX1.out) (flat_ones intC_one x) (by unfold maxLen; omega) (by omega) (by simp) ?_; intro v1 w5 hown1 hg1 _; rw [Nat.zero_add, List.nil_append] at hown1; obtain ⟨Y, yc, rfl⟩ := own_slice hown1; have e5 : Below w2.heap.size w2 w5 := D1.grown hg1 D1.size (fun k e => (hE1.lt k e).1))
    obtain ⟨gy, rr, hvy, hBy, hly⟩ := hown1.form (by omega)
    simp only [Value.slice.injEq, true_and] at hvy
    obtain ⟨rfl, rfl⟩ := hvy
    have HO := Lib.hid hown1
    clear hE1 D1 HX1 hg1 hown1
    have gk : w.heap.size < w2.heap.size := HK3.out.lt
    have HE5 := Lib.hid e5
    have z5 := e5.size
    clear e5
    go_wp2_with fail
    go_loopw [16, 61] (fun aa ii wr => ∃ (i : Nat) (So : Option Addr) (sc : Nat), i ≤ x.length ∧ aa = .slice So (setB b i).length sc ∧ ii = .int .i64 i ∧ Hid (∃ ys, YI b i x ys ∧ wr.ownsRow w2.heap.size 3 1 (.slice (some ⟨gy, 0, none⟩) x.length yc) x.length (ys.flatMap intC) ∧ wr.ownsRow w2.heap.size 3 1 (.slice So (setB b i).length sc) (setB b i).length ((setB b i).flatMap intC) ∧ (∀ g, (Value.slice So (setB b i).length sc).ownBlock = some g → g ≠ gy) ∧ Below w2.heap.size w2 wr)) (fun _ ii _ => x.length - (vInt ii).toNat)
    case atStart => exact ⟨0, none, 0, Nat.zero_le _, rfl, rfl, Lib.hid ⟨x, ⟨rfl, fun k hk => by omega, fun k _ => rfl⟩, HO.out, World.ownsRow_nil _ _ _ _, (fun g hg => by cases hg), HE5.out⟩⟩
    case round =>
      obtain ⟨i, So, sc, hi, rfl, rfl, hR⟩ := hrel
      obtain ⟨ys, HI0, hO, hSo, hdis, hB⟩ := hR.out
      have HI := Lib.hid HI0
      have HSL := Lib.hid (setB_len b i)
      clear HI0 hR
      by_cases hlt : i < x.length
      · have hil : (i : Int) < (x.length : Int) := by omega
        have hyl := HI.out.1
        have hbit := bit8 (b := b) (k := i) hb8 (by omega)
        have hsu := setB_succ b i
        have hi8 : (i : Int) ≤ 8 := by omega
        cases hbt : bitN b i with
        | false =>
          rw [hbt] at hbit hsu
          rw [if_neg (by decide), List.append_nil] at hsu
          have HSU := Lib.hid hsu
          have HJ : Hid (YI b (i + 1) x ys) := Lib.hid ⟨hyl, fun k hk => by
            rcases Nat.lt_or_ge k i with h9 | h9
            · exact HI.out.2.1 k h9
            · obtain rfl : k = i := by omega
              exact ⟨(fun e => by rw [hbt] at e; cases e), fun _ => HI.out.2.2 k (Nat.le_refl _)⟩, fun k hk => HI.out.2.2 k (by omega)⟩
          have HQ := Lib.hid (And.intro hO (And.intro hSo (And.intro hdis hB)))
          clear hsu hbt hO hSo hdis hB hyl HI
          go_wp2_with fail
          go_roundw
          case rel => exact ⟨i + 1, So, sc, by omega, by rw [HSU.out], by go_num, Lib.hid ⟨ys, HJ.out, HQ.out.1, by rw [HSU.out]; exact HQ.out.2.1, by rw [HSU.out]; exact HQ.out.2.2.1, HQ.out.2.2.2⟩⟩
          case measure => simp [vInt]; omega
        | true =>
          rw [hbt] at hbit hsu
          rw [if_pos rfl] at hsu
          have HSU := Lib.hid hsu
          have HBT := Lib.hid hbt
          have bn := (Below.refl wr.heap.size wr).alloc (Nat.le_refl _) (.cells #[.int .i64 (i : Int)] 3)
          have hSo1 := own_below hSo bn
          have hO1 := own_below hO bn
          have hgy := (hO.lt gy rfl).2
          have E1 := hB.trans (bn.mono hB.size)
          have hsl := HSL.out
          clear hsu hbt
          go_upto_region 17 with (at_builtin; refine wpList_append_src _ rfl (.tmp 69) (.tmp 71) 31 rfl w2.heap.size 3 i0 _ 1 8 Tryz.underlying31 hi0 hy0 hy1 hy2 rfl (by decide) _ (setB b i).length ((setB b i).flatMap intC) rfl hSo1 (some ⟨wr.heap.size, 0, none⟩) 1 1 [.int .i64 (i : Int)] rfl rfl (fun e => by cases e) (int_newY wr (.int .i64 (i : Int)) 3) (intC_one (i : Int)) (by unfold maxLen; omega) (by omega) E1.size ?_; intro v1 w6 hown6 hg6 hk6; obtain ⟨S1, s1, rfl⟩ := own_slice hown6)
          have hO6 := own_besideY hO1 hg6 (fun g hg e => hdis g hg (Option.some.inj e).symm)
          have hd6 : ∀ g, (Value.slice S1 ((setB b i).length + 1) s1).ownBlock = some g → g ≠ gy := fun g hg => by
            rcases hk6 with e | e
            · rw [e] at hg; exact hdis g hg
            · rw [e] at hg
              have h8 := Option.some.inj hg
              have h9 := bn.size
              omega
          have b6 : Below w2.heap.size w2 w6 := E1.grown hg6 E1.size (fun k e => (hSo1.lt k e).1)
          have bw6 := HB3.out.trans (b6.mono HB3.out.size)
          have k6 := HK3.out.below b6 gk
          have k6c := k6.cell
          have HS := Lib.hid (HSt.out w6 bw6 i hlt)
          have hLl := HSf.out i hlt
          have HLm : Hid (∀ st ∈ stepsI 0 1000000 (cutsT ⟨traits, cl.map CrdD.v, tl.map TreD.v, need⟩ i), 0 ≤ st ∧ st ≤ 1000000) := Lib.hid (fun st hs => by
            rcases (stepsI_mem ..).1 hs with e | ⟨_, e⟩
            · omega
            · unfold spanIn at e; simp only [Bool.and_eq_true, decide_eq_true_eq] at e; omega)
          have HSO := Lib.hid hown6
          have HDI := Lib.hid hd6
          clear hSo1 hO1 E1 bn hSo hO hdis hB hown6 hg6 hk6 hd6 hgy
          generalize stepsI 0 1000000 (cutsT ⟨traits, cl.map CrdD.v, tl.map TreD.v, need⟩ i) = ST at *
          go_upto_region 18 with (go_at_call 25; (with_reducible refine (HS.out).mono ?_); rintro e w7 ⟨A6, c6, rfl, hA6, -, h7, -⟩)
          have hstl : 0 < ST.length := List.length_pos_iff.2 hLl.2
          have hst0 : ((ST.length : Int) == 0) = false := beq_eq_false_iff_ne.2 (by omega)
          have hst1 : ¬ (ST.length : Int) = 0 := by omega
          have hst2 := hLl.1
          have ha0 := atL_bd Hlb.out (2 * (i : Int))
          have ha1 := atL_bd Hlb.out (2 * (i : Int) + 1)
          have hw0 : IntKind.i64.wrap (2 * (i : Int)) = 2 * (i : Int) := IntWalk.i64_in _ (by omega)
          have hw1 : IntKind.i64.wrap (2 * (i : Int) + 1) = 2 * (i : Int) + 1 := IntWalk.i64_in _ (by omega)
          have b7 := b6.trans (h7.mono b6.size)
          have bw7 := HB3.out.trans (b7.mono HB3.out.size)
          have HA0 := Lib.hid (fun W (hb : Below w.heap.size w W) => at6_any l L lc (2 * (i : Int)) W (Hl.out W hb) Hlm.out (by omega) (by omega))
          have HA1 := Lib.hid (fun W (hb : Below w.heap.size w W) => at6_any l L lc (2 * (i : Int) + 1) W (Hl.out W hb) Hlm.out (by omega) (by omega))
          generalize atL l (2 * (i : Int)) = a0 at *
          generalize atL l (2 * (i : Int) + 1) = a1 at *
          have hw2 : IntKind.i64.wrap a0 = a0 := IntWalk.i64_in _ (by omega)
          obtain ⟨q, hq⟩ : ∃ q : Nat, (q : Int) = a0 % (ST.length : Int) := ⟨(a0 % (ST.length : Int)).toNat, by have := Int.emod_nonneg a0 (b := (ST.length : Int)) (by omega); omega⟩
          have hql : q < ST.length := by have := Int.emod_lt_of_pos a0 (b := (ST.length : Int)) (by omega); omega
          have hqi : (q : Int) < (ST.length : Int) := by omega
          have hm1 : a0.tmod (ST.length : Int) = (q : Int) := by rw [hq]; exact Int.tmod_eq_emod_of_nonneg ha0.1
          have hm2 : IntKind.i64.wrap (q : Int) = (q : Int) := IntWalk.i64_in _ (by omega)
          obtain ⟨b3, o3, rfl, hb3, c3⟩ := ints_at hA6 hql
          have hsb := HLm.out ST[q] (List.getElem_mem hql)
          generalize ST[q] = st at *
          have hO7 := own_below hO6 h7
          obtain ⟨cy7, fy7, hO8⟩ := cell_set hO7 hyl hlt st
          have HAt0 := Lib.hid (HA0.out w7 bw7)
          have b8 : Below w2.heap.size w2 (w7.setCell ⟨gy, i, none⟩ (.int .i64 st)) := b7.setCell (p := ⟨gy, i, none⟩) hBy _
          have hSO7 := own_below HSO.out h7
          have hSO8 := ownsRow_setCell_other hSO7 (a := ⟨gy, i, none⟩) (fun e => HDI.out gy e rfl) (.int .i64 st)
          have hyl8 : (ys.set i st).length = x.length := by rw [List.length_set]; exact hyl
          clear hq hLl hA6 hO6 HS HLm k6c k6 b6 bw6 h7 HSO hO7 hSO7
          go_upto_region 19 with (go_at_call 26; (with_reducible refine (HAt0.out).mono ?_); rintro e9 w9 ⟨rfl, hw9⟩; subst hw9)
          generalize hW8 : w9.setCell ⟨gy, i, none⟩ (.int .i64 st) = w8 at *
          clear hW8 HAt0 cy7 fy7 c3 hm1 hm2
          have bw8 := HB3.out.trans (b8.mono HB3.out.size)
          have HAt1 := Lib.hid (HA1.out w8 bw8)
          obtain ⟨r2, hr2⟩ : ∃ r2, a1.tmod 2 = r2 := ⟨_, rfl⟩
          have hr3 : r2 = a1 % 2 := by rw [← hr2]; exact Int.tmod_eq_emod_of_nonneg ha1.1
          have hr4 : IntKind.u32.wrap r2 = r2 := by
            have h8 : r2 = 0 ∨ r2 = 1 := by omega
            rcases h8 with e | e <;> rw [e] <;> rfl
          have HYI := Lib.hid (fun u h0 h1 => HI.out.set (u := u) HBT.out hlt h0 h1)
          have hsl2 : (setB b (i + 1)).length = (setB b i).length + 1 := by rw [HSU.out, List.length_append]; rfl
          have hfl2 : (setB b (i + 1)).flatMap intC = (setB b i).flatMap intC ++ [.int .i64 (i : Int)] := by rw [HSU.out, List.flatMap_append]; rfl
          by_cases hr5 : r2 = 0
          · have hr6 : (r2 == 0) = true := by simpa using hr5
            have HAt2 := Lib.hid (HA0.out w8 bw8)
            obtain ⟨v2, hv2⟩ : ∃ v2, a0.tmod 1000001 = v2 := ⟨_, rfl⟩
            have hv3 : v2 = a0 % 1000001 := by rw [← hv2]; exact Int.tmod_eq_emod_of_nonneg ha0.1
            have hv4 : IntKind.i64.wrap v2 = v2 := IntWalk.i64_in _ (by omega)
            have hv5 : 0 ≤ v2 ∧ v2 ≤ 1000000 := by omega
            obtain ⟨cy8, fy8, hO9⟩ := cell_set hO8 hyl8 hlt v2
            have HQ : Hid (∃ ys2, YI b (i + 1) x ys2 ∧ (w8.setCell ⟨gy, i, none⟩ (.int .i64 v2)).ownsRow w2.heap.size 3 1 (.slice (some ⟨gy, 0, none⟩) x.length yc) x.length (ys2.flatMap intC) ∧ (w8.setCell ⟨gy, i, none⟩ (.int .i64 v2)).ownsRow w2.heap.size 3 1 (.slice S1 ((setB b i).length + 1) s1) ((setB b i).length + 1) ((setB b (i + 1)).flatMap intC) ∧ (∀ g, (Value.slice S1 ((setB b i).length + 1) s1).ownBlock = some g → g ≠ gy) ∧ Below w2.heap.size w2 (w8.setCell ⟨gy, i, none⟩ (.int .i64 v2))) := Lib.hid ⟨_, HYI.out v2 hv5.1 hv5.2, by rw [List.set_set] at hO9; exact hO9, by rw [hfl2]; exact ownsRow_setCell_other hSO8 (a := ⟨gy, i, none⟩) (fun e => HDI.out gy e rfl) (.int .i64 v2), HDI.out, b8.setCell (p := ⟨gy, i, none⟩) hBy _⟩
            have HSL2 := Lib.hid hsl2
            clear hr3 hr5 hv3 hO8 hO9 hSO8 b8 bw8 hsl2 hfl2 HI HYI hsl
            go_wp2_with (first
              | (go_at_call 26; (with_reducible refine (HAt1.out).mono ?_); rintro e10 w10 ⟨rfl, hw10⟩; subst hw10)
              | (go_at_call 26; (with_reducible refine (HAt2.out).mono ?_); rintro e11 w11 ⟨rfl, hw11⟩; subst hw11))
            go_roundw
            case rel => exact ⟨i + 1, S1, s1, by omega, by rw [HSL2.out], by go_num, by rw [HSL2.out]; exact HQ⟩
            case measure => simp [vInt]; omega
          · have hr6 : (r2 == 0) = false := by simpa using hr5
            have HQ : Hid (∃ ys2, YI b (i + 1) x ys2 ∧ w8.ownsRow w2.heap.size 3 1 (.slice (some ⟨gy, 0, none⟩) x.length yc) x.length (ys2.flatMap intC) ∧ w8.ownsRow w2.heap.size 3 1 (.slice S1 ((setB b i).length + 1) s1) ((setB b i).length + 1) ((setB b (i + 1)).flatMap intC) ∧ (∀ g, (Value.slice S1 ((setB b i).length + 1) s1).ownBlock = some g → g ≠ gy) ∧ Below w2.heap.size w2 w8) := Lib.hid ⟨_, HYI.out st hsb.1 hsb.2, hO8, by rw [hfl2]; exact hSO8, HDI.out, b8⟩
            have HSL2 := Lib.hid hsl2
            clear hr3 hr5 hO8 hSO8 b8 bw8 hsl2 hfl2 HI HYI hsl
            go_wp2_with (go_at_call 26; (with_reducible refine (HAt1.out).mono ?_); rintro e10 w10 ⟨rfl, hw10⟩; subst hw10)
            go_roundw
            case rel => exact ⟨i + 1, S1, s1, by omega, by rw [HSL2.out], by go_num, by rw [HSL2.out]; exact HQ⟩
            case measure => simp [vInt]; omega
      · have hil : ¬ (i : Int) < (x.length : Int) := by omega
        obtain rfl : i = x.length := by omega
        obtain ⟨o1, o2, o3⟩ := HW.out.ok b ys HI.out.1 (fun k hk => HI.out.2.1 k hk)
        have hyl := HI.out.1
        have sY : IntsAt wr wr.heap.size (some ⟨gy, 0, none⟩) ys := Flat.of_own (c := yc) intC_len (by decide) (by rw [hyl]; exact hO)
        have sS : IntsAt wr wr.heap.size So (setB b x.length) := Flat.of_own (c := sc) intC_len (by decide) hSo
        have b9 := HB3.out.trans (hB.mono HB3.out.size)
        have k9 := HK3.out.below hB gk
        have hA9 := HRA.out.later hB
        have hB9 := HRB.out.later hB
        have C2 := Hsc.out wr _ yc ys b9 sY (by omega)
        have hns := HSL.out
        rw [o1, hyl] at C2
        have k9c := k9.cell
        rcases HW.out.er2 with e6 | e0
        · obtain ⟨hs6, hv6⟩ := HW.out.none_ e6
          rw [o2 e6] at C2
          have HC2 := Lib.hid C2
          subst e6
          subst hs6
          subst hv6
          clear o1 o2 o3 C2 sY sS hA9 hB9 HW HI hO hSo hdis HRA HRB
          generalize scY ⟨traits, cl.map CrdD.v, tl.map TreD.v, need⟩ x = yes at *
          go_wp2_with (go_at_call 12; (with_reducible refine (HC2.out).mono ?_); rintro e10 w10 ⟨rfl, h10⟩)
          go_ret
          exact ⟨rfl, b9.trans (h10.mono b9.size)⟩
        · obtain ⟨m1, m2, m3, m4⟩ := HW.out.some_ e0
          have HBK := Lib.hid (HW.out.back e0)
          have HO3 := Lib.hid (o3 e0)
          have HM4 := Lib.hid m4
          have hsl1 : 0 < s.length := List.length_pos_iff.2 m1
          have hsl0 : ((s.length : Int) == 0) = false := beq_eq_false_iff_ne.2 (by omega)
          have HC2 := Lib.hid C2
          obtain ⟨vn, hvn⟩ : ∃ vn, vn = v.length := ⟨_, rfl⟩
          have hvn2 : vn = s.length := by omega
          have hvn3 : ((vn : Int) != (s.length : Int)) = false := by rw [hvn2]; simp
          have HVN := Lib.hid hvn
          have hvni : ∀ i : Nat, i < s.length → (i : Int) < (vn : Int) := fun i hi => by omega
          rw [← hvn]
          subst e0
          clear o1 o2 o3 C2 HW m1 m2 m4 hvn hvn2 hO hSo hdis HRA HRB
          generalize hyes : scY ⟨traits, cl.map CrdD.v, tl.map TreD.v, need⟩ x = yes at *
          generalize scY ⟨traits, cl.map CrdD.v, tl.map TreD.v, need⟩ ys = iss at *
          have HYES := Lib.hid hyes
          clear hyes
          go_upto_region 29 with (go_at_call 12; (with_reducible refine (HC2.out).mono ?_); rintro e10 w10 ⟨rfl, h10⟩)
          have b10 := b9.trans (h10.mono b9.size)
          have HK10 := Lib.hid (k9.below h10 k9.lt)
          have HY10 := Lib.hid (sY.later h10)
          have HS10 := Lib.hid (sS.later h10)
          have HA10 := Lib.hid (hA9.later h10)
          have HV10 := Lib.hid (hB9.later h10)
          have HX10 := Lib.hid (Hx.out _ b10)
          have HB10 := Lib.hid b10
          have hE2 := own_empty w10 3 1 w10.heap.size (Nat.le_refl _)
          have D2 := (Below.refl w10.heap.size w10).alloc (Nat.le_refl _) (.cells #[] 3)
          have HX2 := Lib.hid (HX10.out.later D2)
          clear sY sS hA9 hB9 b9 b10 k9 k9c h10 HC2 HI hB
          go_upto_region 30 with (at_builtin; refine wpList_append_src _ rfl (.tmp 148) (.tmp 149) 31 rfl w10.heap.size 3 i0 _ 1 8 Tryz.underlying31 hi0 hy0 hy1 hy2 rfl (by decide) _ 0 [] rfl hE2 _ x.length xc (x.flatMap intC) rfl (by rw [flat_len intC_len]) (fun e => by cases e) (Flat.news intC_len (by decide) HX2.out) (flat_ones intC_one x) (by unfold maxLen; omega) (by omega) (by simp) ?_; intro v1 w11 hown2 hg2 _; rw [Nat.zero_add, List.nil_append] at hown2; obtain ⟨Z, zc, rfl⟩ := own_slice hown2; have e11 : Below w10.heap.size w10 w11 := D2.grown hg2 D2.size (fun k e => (hE2.lt k e).1))
          obtain ⟨gz, rr, hvz, hBz, hlz⟩ := hown2.form (by omega)
          simp only [Value.slice.injEq, true_and] at hvz
          obtain ⟨rfl, rfl⟩ := hvz
          have HOZ := Lib.hid hown2
          have HE11 := Lib.hid e11
          clear hE2 D2 HX2 hg2 hown2 e11
          go_wp2_with fail
          go_loopw [153] (fun ii wr => ∃ i : Nat, i ≤ s.length ∧ ii = .int .i64 i ∧ Hid (∃ zs, ZI s v i x zs ∧ wr.ownsRow w10.heap.size 3 1 (.slice (some ⟨gz, 0, none⟩) x.length zc) x.length (zs.flatMap intC) ∧ Below w10.heap.size w10 wr)) (fun ii _ => s.length - (vInt ii).toNat)
          case atStart => exact ⟨0, Nat.zero_le _, rfl, Lib.hid ⟨x, ⟨rfl, fun j hj => by omega, fun k _ _ => rfl⟩, HOZ.out, HE11.out⟩⟩
          case round =>
            obtain ⟨i, hi, rfl, hR⟩ := hrel
            obtain ⟨zs, HZ0, hO, hB⟩ := hR.out
            have HZ := Lib.hid HZ0
            clear HZ0 hR
            by_cases hlt : i < s.length
            · have hil : (i : Int) < (s.length : Int) := by omega
              have hivn := hvni i hlt
              obtain ⟨k, n1, n2, n3, n4, n5, n6⟩ := HM4.out i hlt
              have hvl : i < v.length := by have := HVN.out; omega
              have hki : (k : Int) < (x.length : Int) := by omega
              have hk1 : decide ((k : Int) < 0) = false := decide_eq_false (by omega)
              have hk2 : decide ((x.length : Int) ≤ (k : Int)) = false := decide_eq_false (by omega)
              have hk3 : decide (x.length ≤ k) = false := decide_eq_false (by omega)
              obtain ⟨bA, oA, rfl, hbA, cA⟩ := ints_at (HA10.out.later hB) hlt
              obtain ⟨bB, oB, rfl, hbB, cB⟩ := ints_at (HV10.out.later hB) hvl
              obtain ⟨bX', oX', he, hbX, cX⟩ := ints_at (HX10.out.later hB) n2
              cases he
              have hsk : s[i] = (k : Int) := by rw [← getD_lt s 0 hlt]; exact n1
              rw [hsk] at cA
              rw [getD_lt _ _ hvl] at n4 n5 n6
              rw [getD_lt _ _ n2] at n6
              have HVG : Hid (v.getD i 0 = v[i]) := Lib.hid (getD_lt _ _ hvl)
              have HO := Lib.hid hO
              have HN3 := Lib.hid n3
              have HN1 := Lib.hid n1
              have h1 : decide (v[i] < 0) = false := decide_eq_false (by omega)
              have h2 : decide (1000000 < v[i]) = false := decide_eq_false (by omega)
              have h3 : (v[i] == x[k]) = false := by simpa using n6
              have vA := After.cell (B := wr.heap.size) cB hbB
              have xA := After.cell (B := wr.heap.size) cX hbX
              clear n6 n1 n3 hsk hO
              generalize v[i] = vi at *
              generalize x[k] = xk at *
              have HJ : Hid (ZI s v (i + 1) x (zs.set k vi)) := Lib.hid ⟨by rw [List.length_set]; exact HZ.out.1, fun j hj => by
                rcases Nat.lt_or_ge j i with h9 | h9
                · obtain ⟨k', u1, u2, -⟩ := HM4.out j (by omega)
                  have h8 := HN3.out j h9
                  rw [getD_neY (by rw [u1]; rw [u1] at h8; omega)]
                  exact HZ.out.2.1 j h9
                · obtain rfl : j = i := by omega
                  rw [HN1.out, Int.toNat_natCast, getD_eqY (by rw [HZ.out.1]; exact n2), HVG.out], fun k' hk' hne => by
                have h9 := hne i (by omega)
                rw [HN1.out] at h9
                rw [getD_neY (by omega)]
                exact HZ.out.2.2 k' hk' (fun j hj => hne j (by omega))⟩
              rcases Nat.eq_zero_or_pos i with h0 | h0
              · have hi0 : decide (0 < i) = false := decide_eq_false (by omega)
                have hi1 : decide ((0 : Int) < (i : Int)) = false := decide_eq_false (by omega)
                clear h0 n4 n5
                go_upto_region 33 with fail
                refine wp_region_class_lit (C := fun w' => ∃ z : After wr.heap.size wr, w' = z.val) (by kernel_rfl) (by kernel_rfl) ⟨⟨_, (Below.refl _ _).drew⟩, rfl⟩ ?_
                repeat (go_big_quiet_step (fail))
                refine wpQuiet_nil ?_
                intro wz0 hw'
                obtain ⟨⟨wz, hz⟩, hw''⟩ := hw'
                dsimp only at hw''
                subst hw''
                obtain ⟨cz, fz, hO2⟩ := cell_set (own_below HO.out hz) HZ.out.1 n2 vi
                have cB2 := (hz.cell (p := ⟨bB, oB + i, none⟩) hbB).trans cB
                have HQ : Hid (∃ zs2, ZI s v (i + 1) x zs2 ∧ (wz0.setCell ⟨gz, k, none⟩ (.int .i64 vi)).ownsRow w10.heap.size 3 1 (.slice (some ⟨gz, 0, none⟩) x.length zc) x.length (zs2.flatMap intC) ∧ Below w10.heap.size w10 (wz0.setCell ⟨gz, k, none⟩ (.int .i64 vi))) := Lib.hid ⟨_, HJ.out, hO2, (hB.trans (hz.mono hB.size)).setCell (p := ⟨gz, k, none⟩) hBz _⟩
                clear hO2 HO vA xA cB cX
                go_wp2_with fail
                go_roundw
                case rel => exact ⟨i + 1, by omega, by go_num, HQ⟩
                case measure => simp [vInt]; omega
              · have hi0 : decide (0 < i) = true := decide_eq_true h0
                have hi1 : decide ((0 : Int) < (i : Int)) = true := decide_eq_true (by omega)
                obtain ⟨i', hi'⟩ : ∃ i', i = i' + 1 := ⟨i - 1, by omega⟩
                have hlt' : i' < s.length := by omega
                have hii : (i' : Int) < (s.length : Int) := by omega
                have hwi : IntKind.i64.wrap ((i : Int) - 1) = (i' : Int) := by rw [IntWalk.i64_in _ (by omega)]; omega
                obtain ⟨bA', oA', he, hbA', cA'⟩ := ints_at (HA10.out.later hB) hlt'
                cases he
                have hp := HN3.out i' (by omega)
                rw [getD_lt _ _ hlt'] at hp
                have hpd : decide ((k : Int) ≤ s[i']) = false := decide_eq_false (by omega)
                have aA := After.cell (B := wr.heap.size) cA' hbA'
                clear h0 n4 n5 cA' hi' hp
                generalize s[i'] = pv at *
                go_upto_region 33 with fail
                refine wp_region_class_lit (C := fun w' => ∃ z : After wr.heap.size wr, w' = z.val) (by kernel_rfl) (by kernel_rfl) ⟨⟨_, (Below.refl _ _).drew⟩, rfl⟩ ?_
                repeat (go_big_quiet_step (fail))
                refine wpQuiet_nil ?_
                intro wz0 hw'
                obtain ⟨⟨wz, hz⟩, hw''⟩ := hw'
                dsimp only at hw''
                subst hw''
                obtain ⟨cz, fz, hO2⟩ := cell_set (own_below HO.out hz) HZ.out.1 n2 vi
                have cB2 := (hz.cell (p := ⟨bB, oB + i, none⟩) hbB).trans cB
                have HQ : Hid (∃ zs2, ZI s v (i + 1) x zs2 ∧ (wz0.setCell ⟨gz, k, none⟩ (.int .i64 vi)).ownsRow w10.heap.size 3 1 (.slice (some ⟨gz, 0, none⟩) x.length zc) x.length (zs2.flatMap intC) ∧ Below w10.heap.size w10 (wz0.setCell ⟨gz, k, none⟩ (.int .i64 vi))) := Lib.hid ⟨_, HJ.out, hO2, (hB.trans (hz.mono hB.size)).setCell (p := ⟨gz, k, none⟩) hBz _⟩
                clear hO2 HO vA xA cB cX
                go_wp2_with fail
                go_roundw
                case rel => exact ⟨i + 1, by omega, by go_num, HQ⟩
                case measure => simp [vInt]; omega
            · have hil : ¬ (i : Int) < (s.length : Int) := by omega
              obtain rfl : i = s.length := by omega
              obtain ⟨f1, f2⟩ := HBK.out zs HZ.out.1 HZ.out.2.1 HZ.out.2.2
              have hzl := HZ.out.1
              have sZ : IntsAt wr wr.heap.size (some ⟨gz, 0, none⟩) zs := Flat.of_own (c := zc) intC_len (by decide) (by rw [hzl]; exact hO)
              have b12 := HB10.out.trans (hB.mono HB10.out.size)
              have C3 := Hsc.out wr _ zc zs b12 sZ (by omega)
              rw [f1, hzl] at C3
              generalize scY ⟨traits, cl.map CrdD.v, tl.map TreD.v, need⟩ zs = no at *
              have hno : (no == yes) = false := by cases no <;> cases yes <;> first | rfl | exact absurd rfl f2
              have HC3 := Lib.hid C3
              have k12c := (HK10.out.below hB HK10.out.lt).cell
              clear C3 f1 f2 hzl sZ HZ hO
              go_upto_region 40 with (go_at_call 12; (with_reducible refine (HC3.out).mono ?_); rintro e13 w13 ⟨rfl, h13⟩)
              have e13 := hB.trans (h13.mono hB.size)
              have b13 := HB10.out.trans (e13.mono HB10.out.size)
              have HY13 := Lib.hid (HY10.out.later e13)
              have HS13 := Lib.hid (HS10.out.later e13)
              have HA13 := Lib.hid (HA10.out.later e13)
              have HV13 := Lib.hid (HV10.out.later e13)
              have HB13 := Lib.hid b13
              clear HC3 k12c b12 h13 hB e13 HY10 HS10 HA10 HV10
              by_cases hie : iss = yes
              · have hie2 : (iss == yes) = true := by rw [hie]; simp
                clear hie HO3
                go_wp2_with fail
                go_ret
                exact ⟨rfl, b13⟩
              have hie2 : (iss == yes) = false := by cases iss <;> cases yes <;> first | rfl | exact absurd rfl hie
              obtain ⟨g1, g2, g3⟩ := HO3.out hie
              have hsl9 := HSL.out
              by_cases hgt : s.length < (setB b x.length).length
              · have hgd : decide (s.length < (setB b x.length).length) = true := decide_eq_true hgt
                have hge : (s.length : Int) < ((setB b x.length).length : Int) := by omega
                clear hie g1 g2 g3
                go_wp2_with fail
                go_ret
                exact ⟨rfl, b13⟩
              have hge : ¬ (s.length : Int) < ((setB b x.length).length : Int) := by omega
              have hgf : ¬ ((setB b x.length).length : Int) < (s.length : Int) := by omega
              have HLE : Hid ((setB b x.length).length = s.length) := Lib.hid (by omega)
              have HG2 := Lib.hid (fun i hi => g2 i hi HLE.out)
              have HG3 := Lib.hid g3
              clear hie g1 g2 g3
              go_wp2_with fail
              go_loopw [244] (fun ii wr => ∃ i : Nat, i ≤ (setB b x.length).length ∧ ii = .int .i64 i ∧ Hid ((∀ j, j < i → (setB b x.length).getD j 0 = s.getD j 0) ∧ Below w13.heap.size w13 wr)) (fun ii _ => (setB b x.length).length - (vInt ii).toNat)
              case atStart => exact ⟨0, Nat.zero_le _, rfl, Lib.hid ⟨fun j hj => by omega, Below.refl _ _⟩⟩
              case round =>
                obtain ⟨i, hi, rfl, hR⟩ := hrel
                obtain ⟨hE, hB⟩ := hR.out
                clear hR
                by_cases hlt : i < (setB b x.length).length
                · have hil : (i : Int) < ((setB b x.length).length : Int) := by omega
                  have hls : i < s.length := by omega
                  have hil2 : (i : Int) < (s.length : Int) := by omega
                  obtain ⟨bS, oS, rfl, hbS, cS⟩ := ints_at (HS13.out.later hB) hlt
                  obtain ⟨bA, oA, rfl, hbA, cA⟩ := ints_at (HA13.out.later hB) hls
                  have hG := HG2.out i hls hE
                  have hq1 : (setB b x.length).getD i 0 = (setB b x.length)[i] := getD_lt _ _ hlt
                  have hq2 : s.getD i 0 = s[i] := getD_lt _ _ hls
                  rw [hq1, hq2] at hG
                  have HQ1 := Lib.hid hq1
                  have HQ2 := Lib.hid hq2
                  clear hq1 hq2
                  generalize (setB b x.length)[i] = p1 at *
                  generalize s[i] = p2 at *
                  have sA := After.cell (B := wr.heap.size) cS hbS
                  have aA := After.cell (B := wr.heap.size) cA hbA
                  by_cases hne : p1 = p2
                  · have hne2 : (p1 != p2) = false := by simpa using hne
                    have HJ : Hid (∀ j, j < i + 1 → (setB b x.length).getD j 0 = s.getD j 0) := Lib.hid (fun j hj => by
                      rcases Nat.lt_or_ge j i with h9 | h9
                      · exact hE j h9
                      · obtain rfl : j = i := by omega
                        rw [HQ1.out, HQ2.out, hne])
                    clear hne hG
                    go_upto_region 47 with fail
                    refine wp_region_class_lit (C := fun w' => ∃ z : After wr.heap.size wr, w' = z.val) (by kernel_rfl) (by kernel_rfl) ⟨⟨_, (Below.refl _ _).drew⟩, rfl⟩ ?_
                    repeat (go_big_quiet_step (fail))
                    refine wpQuiet_nil ?_
                    intro wz0 hw'
                    obtain ⟨⟨wz, hz⟩, hw''⟩ := hw'
                    dsimp only at hw''
                    subst hw''
                    clear sA aA cS cA
                    go_wp2_with fail
                    go_roundw
                    case rel => exact ⟨i + 1, by omega, by go_num, Lib.hid ⟨HJ.out, hB.trans (hz.mono hB.size)⟩⟩
                    case measure => simp [vInt]; omega
                  · have hne2 : (p1 != p2) = true := by simpa using hne
                    have hlt2 := hG hne
                    have hltd : decide (p2 < p1) = true := decide_eq_true hlt2
                    clear hne hG
                    go_upto_region 47 with fail
                    refine wp_region_class_lit (C := fun w' => ∃ z : After wr.heap.size wr, w' = z.val) (by kernel_rfl) (by kernel_rfl) ⟨⟨_, (Below.refl _ _).drew⟩, rfl⟩ ?_
                    repeat (go_big_quiet_step (fail))
                    refine wpQuiet_nil ?_
                    intro wz0 hw'
                    obtain ⟨⟨wz, hz⟩, hw''⟩ := hw'
                    dsimp only at hw''
                    subst hw''
                    clear sA aA
                    have sA := After.cell (B := wz0.heap.size) ((hz.cell (p := ⟨bS, oS + i, none⟩) hbS).trans cS) (Nat.lt_of_lt_of_le hbS hz.size)
                    have aA := After.cell (B := wz0.heap.size) ((hz.cell (p := ⟨bA, oA + i, none⟩) hbA).trans cA) (Nat.lt_of_lt_of_le hbA hz.size)
                    clear cS cA
                    go_upto_region 48 with fail
                    refine wp_region_class_lit (C := fun w' => ∃ z : After wz0.heap.size wz0, w' = z.val) (by kernel_rfl) (by kernel_rfl) ⟨⟨_, (Below.refl _ _).drew⟩, rfl⟩ ?_
                    repeat (go_big_quiet_step (fail))
                    refine wpQuiet_nil ?_
                    intro wz1 hw'
                    obtain ⟨⟨wz, hz1⟩, hw''⟩ := hw'
                    dsimp only at hw''
                    subst hw''
                    go_wp2_with fail
                    go_ret
                    exact ⟨rfl, b13.trans (((hB.trans (hz.mono hB.size)).trans (hz1.mono (Nat.le_trans hB.size hz.size))).mono b13.size)⟩
                · have hil : ¬ (i : Int) < ((setB b x.length).length : Int) := by omega
                  obtain rfl : i = (setB b x.length).length := by omega
                  have HS3 := Lib.hid (HG3.out (List.ext_getElem HLE.out fun j h1 h2 => by
                    have := hE j h1
                    rw [getD_lt _ _ h1, getD_lt _ _ h2] at this
                    exact this))
                  have b14 := b13.trans (hB.mono b13.size)
                  have HY14 := Lib.hid (HY13.out.later hB)
                  have HA14 := Lib.hid (HA13.out.later hB)
                  have HV14 := Lib.hid (HV13.out.later hB)
                  clear hE hB b13 HB13 HY13 HA13 HV13 HS13 HG2 HG3
                  generalize wr = w14 at *
                  go_wp2_with fail
                  go_loopw [271] (fun ii wr => ∃ i : Nat, i ≤ s.length ∧ ii = .int .i64 i ∧ Hid ((∀ j, j < i → ys.getD (s.getD j 0).toNat 0 = v.getD j 0) ∧ Below w14.heap.size w14 wr)) (fun ii _ => s.length - (vInt ii).toNat)
                  case atStart => exact ⟨0, Nat.zero_le _, rfl, Lib.hid ⟨fun j hj => by omega, Below.refl _ _⟩⟩
                  case round =>
                    obtain ⟨i, hi, rfl, hR⟩ := hrel
                    obtain ⟨hE, hB⟩ := hR.out
                    clear hR
                    by_cases hlt : i < s.length
                    · have hil : (i : Int) < (s.length : Int) := by omega
                      have hivn := hvni i hlt
                      obtain ⟨k, n1, n2, -, -, -, -⟩ := HM4.out i hlt
                      have hki : (k : Int) < (x.length : Int) := by omega
                      have hvl : i < v.length := by have := HVN.out; omega
                      have hky : k < ys.length := by omega
                      obtain ⟨bA, oA, rfl, hbA, cA⟩ := ints_at (HA14.out.later hB) hlt
                      obtain ⟨bB, oB, rfl, hbB, cB⟩ := ints_at (HV14.out.later hB) hvl
                      obtain ⟨bY, oY, he, hbY, cY⟩ := ints_at (HY14.out.later hB) hky
                      cases he
                      rw [Nat.zero_add] at cY
                      have hsk : s[i] = (k : Int) := by rw [← getD_lt s 0 hlt]; exact n1
                      rw [hsk] at cA
                      have hG := HS3.out i hlt hE
                      rw [n1, Int.toNat_natCast, getD_lt _ _ hky, getD_lt _ _ hvl] at hG
                      have HQ1 : Hid (ys.getD k 0 = ys[k]) := Lib.hid (getD_lt _ _ hky)
                      have HQ2 : Hid (v.getD i 0 = v[i]) := Lib.hid (getD_lt _ _ hvl)
                      have HN1 := Lib.hid n1
                      clear n1 hsk
                      generalize ys[k] = p1 at *
                      generalize v[i] = p2 at *
                      have yA := After.cell (B := wr.heap.size) cY hbY
                      have vA := After.cell (B := wr.heap.size) cB hbB
                      by_cases hne : p1 = p2
                      · have hne2 : (p1 != p2) = false := by simpa using hne
                        have HJ : Hid (∀ j, j < i + 1 → ys.getD (s.getD j 0).toNat 0 = v.getD j 0) := Lib.hid (fun j hj => by
                          rcases Nat.lt_or_ge j i with h9 | h9
                          · exact hE j h9
                          · obtain rfl : j = i := by omega
                            rw [HN1.out, Int.toNat_natCast, HQ1.out, HQ2.out, hne])
                        clear hne hG
                        go_upto_region 53 with fail
                        refine wp_region_class_lit (C := fun w' => ∃ z : After wr.heap.size wr, w' = z.val) (by kernel_rfl) (by kernel_rfl) ⟨⟨_, (Below.refl _ _).drew⟩, rfl⟩ ?_
                        repeat (go_big_quiet_step (fail))
                        refine wpQuiet_nil ?_
                        intro wz0 hw'
                        obtain ⟨⟨wz, hz⟩, hw''⟩ := hw'
                        dsimp only at hw''
                        subst hw''
                        clear yA vA cB cY cA
                        go_wp2_with fail
                        go_roundw
                        case rel => exact ⟨i + 1, by omega, by go_num, Lib.hid ⟨HJ.out, hB.trans (hz.mono hB.size)⟩⟩
                        case measure => simp [vInt]; omega
                      · have hne2 : (p1 != p2) = true := by simpa using hne
                        have hlt2 := hG hne
                        have hltd : decide (p2 < p1) = true := decide_eq_true hlt2
                        clear hne hG
                        go_upto_region 53 with fail
                        refine wp_region_class_lit (C := fun w' => ∃ z : After wr.heap.size wr, w' = z.val) (by kernel_rfl) (by kernel_rfl) ⟨⟨_, (Below.refl _ _).drew⟩, rfl⟩ ?_
                        repeat (go_big_quiet_step (fail))
                        refine wpQuiet_nil ?_
                        intro wz0 hw'
                        obtain ⟨⟨wz, hz⟩, hw''⟩ := hw'
                        dsimp only at hw''
                        subst hw''
                        clear yA vA
                        have yA := After.cell (B := wz0.heap.size) ((hz.cell (p := ⟨gy, k, none⟩) hbY).trans cY) (Nat.lt_of_lt_of_le hbY hz.size)
                        have vA := After.cell (B := wz0.heap.size) ((hz.cell (p := ⟨bB, oB + i, none⟩) hbB).trans cB) (Nat.lt_of_lt_of_le hbB hz.size)
                        clear cB cY cA
                        go_upto_region 54 with fail
                        refine wp_region_class_lit (C := fun w' => ∃ z : After wz0.heap.size wz0, w' = z.val) (by kernel_rfl) (by kernel_rfl) ⟨⟨_, (Below.refl _ _).drew⟩, rfl⟩ ?_
                        repeat (go_big_quiet_step (fail))
                        refine wpQuiet_nil ?_
                        intro wz1 hw'
                        obtain ⟨⟨wz, hz1⟩, hw''⟩ := hw'
                        dsimp only at hw''
                        subst hw''
                        go_wp2_with fail
                        go_ret
                        exact ⟨rfl, b14.trans (((hB.trans (hz.mono hB.size)).trans (hz1.mono (Nat.le_trans hB.size hz.size))).mono b14.size)⟩
                    · have hil : ¬ (i : Int) < (s.length : Int) := by omega
                      go_wp2_with fail
                      go_ret
                      exact ⟨rfl, b14.trans (hB.mono b14.size)⟩
end Go.Proofs.YtkimojiakabbcaaGreat
