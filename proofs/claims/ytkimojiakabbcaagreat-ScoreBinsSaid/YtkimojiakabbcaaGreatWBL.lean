/- ScoreBins: the law returns true for any model, values and numbers. Written by a program. -/
import Derived.Test.YtkimojiakabbcaaGreatWP4
import Derived.Deep.AppendSrc

namespace Go.Proofs.YtkimojiakabbcaaGreat
open Go.RowKit Go.Maps

/-- The loop's list: its first i values lie in the same bins, the others are as they were. -/
def BinI (K : List Int → Nat → Prop) (i : Nat) (x ys : List Int) : Prop := ys.length = x.length ∧ (∀ k, k < i → K ys k) ∧ ∀ k, i ≤ k → ys.getD k 0 = x.getD k 0
theorem getD_set_ne {l : List Int} {i k : Nat} {v : Int} (h : i ≠ k) : (l.set i v).getD k 0 = l.getD k 0 := by
  rw [List.getD_eq_getElem?_getD, List.getD_eq_getElem?_getD, List.getElem?_set_ne h]
theorem getD_setI (l : List Int) (i k : Nat) (v : Int) (hk : k < l.length) : (l.set i v).getD k 0 = if i = k then v else l.getD k 0 := by
  rw [getD_lt _ _ (by simpa using hk), getD_lt _ _ hk, List.getElem_set]

set_option maxRecDepth 100000 in
set_option maxHeartbeats 8000000 in
theorem scoreBins_any (traits need : Int) (cl : List CrdD) (tl : List TreD) (C T : Option Addr) (c t : Nat) (x : List Int) (X : Option Addr) (xc : Nat) (l : List Int) (L : Option Addr) (lc : Nat) (w : World) (h : MdlAt w w.heap.size ⟨traits, cl, C, c, tl, T, t, need⟩) (hx : IntsAt w w.heap.size X x) (hxm : x.length ≤ maxLen) (hl : U32At w w.heap.size L l) (hlm : l.length ≤ maxLen) (hlb : ∀ z ∈ l, 0 ≤ z ∧ z < 4294967296)
    (K : List Int → Nat → Prop)
    (HAL : ∀ (W : World), Calls Tryz.prog 11 #[] W fun e w' => e = .returned (.bool true) ∧ Below W.heap.size W w')
    (HSC : ∀ (W : World) (Y1 : Option Addr) (y1 : Nat) (ys : List Int), MdlAt W W.heap.size ⟨traits, cl, C, c, tl, T, t, need⟩ → MdlLe ⟨traits, cl, C, c, tl, T, t, need⟩ → IntsAt W W.heap.size Y1 ys → ys.length ≤ 10 → Calls Tryz.prog 12 #[.agg #[.int .i64 traits, .slice C cl.length c, .slice T tl.length t, .int .i64 need], .slice Y1 ys.length y1] W fun e w' => e = .returned (.tuple #[.int .i64 (scN ⟨traits, cl.map CrdD.v, tl.map TreD.v, need⟩ ys), .bool (scY ⟨traits, cl.map CrdD.v, tl.map TreD.v, need⟩ ys), .int .i64 (forE ⟨traits, cl.map CrdD.v, tl.map TreD.v, need⟩ ys)]) ∧ Below W.heap.size W w')
    (HK : valsB traits x = true → ∀ (ys : List Int) (k : Nat) (u lo hi : Int), k < x.length → ys.length = x.length → ((x.getD k 0 = -1 ∧ u = -1) ∨ (x.getD k 0 ≠ -1 ∧ (∀ st ∈ stepsI 0 1000000 (cutsT ⟨traits, cl.map CrdD.v, tl.map TreD.v, need⟩ k), (st ≤ x.getD k 0 → st ≤ lo) ∧ (x.getD k 0 < st → hi ≤ st - 1)) ∧ 0 ≤ lo ∧ lo ≤ x.getD k 0 ∧ x.getD k 0 ≤ hi ∧ hi ≤ 1000000 ∧ lo ≤ u ∧ u ≤ hi)) → K (ys.set k u) k ∧ ∀ j, j < k → K ys j → K (ys.set k u) j)
    (HKE : mdlB ⟨traits, cl.map CrdD.v, tl.map TreD.v, need⟩ = true → valsB traits x = true → ∀ ys, ys.length = x.length → (∀ k, k < x.length → K ys k) → forE ⟨traits, cl.map CrdD.v, tl.map TreD.v, need⟩ x = 0 ∧ forE ⟨traits, cl.map CrdD.v, tl.map TreD.v, need⟩ ys = 0 ∧ scN ⟨traits, cl.map CrdD.v, tl.map TreD.v, need⟩ ys = scN ⟨traits, cl.map CrdD.v, tl.map TreD.v, need⟩ x ∧ scY ⟨traits, cl.map CrdD.v, tl.map TreD.v, need⟩ ys = scY ⟨traits, cl.map CrdD.v, tl.map TreD.v, need⟩ x) :
    Calls Tryz.prog 6 #[.agg #[.int .i64 traits, .slice C cl.length c, .slice T tl.length t, .int .i64 need], .slice X x.length xc, .slice L l.length lc] w fun e w' => e = .returned (.bool true) ∧ Below w.heap.size w w' := by
  have b1 := (Below.refl w.heap.size w).alloc (Nat.le_refl _) (.cells #[.int .i64 traits, .slice C cl.length c, .slice T tl.length t, .int .i64 need] 29)
  have k1 := Blk.new w #[.int .i64 traits, .slice C cl.length c, .slice T tl.length t, .int .i64 need] 29
  have HRd := Lib.hid (fun W hb => ready_all traits need cl tl C T c t x X xc W (h.later hb) (hx.later hb) hxm)
  have HAl := Lib.hid HAL
  have q1 := k1.lt
  have k1c := k1.cell
  have hxm1 : IntKind.i64.wrap (x.length : Int) = (x.length : Int) := by unfold maxLen at hxm; exact IntWalk.i64_in _ (by omega)
  clear HAL
  cases hr : rdyB ⟨traits, cl, C, c, tl, T, t, need⟩ ⟨traits, cl.map CrdD.v, tl.map TreD.v, need⟩ x with
  | false =>
    rw [hr] at HRd
    clear h hx hl HSC HK HKE hr
    go_enter Tryz.func6, Tryz.ntmps6
    go_wp2_with (first
      | (go_at_call 11; (with_reducible refine (HAl.out _).mono ?_); rintro e w1 ⟨rfl, h1⟩; have b2 := b1.trans (h1.mono b1.size); have k2c := (k1.below h1 q1).cell)
      | (go_at_call 24; (with_reducible refine (HRd.out _ b2).mono ?_); rintro e w2 ⟨rfl, h2⟩))
    go_ret
    exact ⟨rfl, b2.trans (h2.mono b2.size)⟩
  | true =>
    rw [hr] at HRd
    unfold rdyB at hr
    simp only [Bool.and_eq_true] at hr
    obtain ⟨hg, hM, hv⟩ := hr
    have hls := mdlLe_of hg
    have htr := (mdlB_parts hM).1
    have hvl : (x.length : Int) = traits := by unfold valsB at hv; simp only [Bool.and_eq_true, decide_eq_true_eq] at hv; exact hv.1
    have hva : ∀ k, (hk : k < x.length) → -1 ≤ x[k] ∧ x[k] ≤ 1000000 := fun k hk => by
      unfold valsB at hv
      simp only [Bool.and_eq_true, decide_eq_true_eq, List.all_eq_true] at hv
      have := hv.2 x[k] (List.getElem_mem hk)
      unfold valB at this
      exact inN_iff.1 this
    have hx1 : 1 ≤ x.length := by dsimp only at htr; omega
    have hx5 : x.length ≤ 5 := by dsimp only at htr; omega
    have HKV := Lib.hid (HK hv)
    have HKF := Lib.hid (HKE hM hv)
    have Hh := Lib.hid (fun W (hb : Below w.heap.size w W) => h.later hb)
    have Hx := Lib.hid (fun W (hb : Below w.heap.size w W) => hx.later hb)
    have Hl := Lib.hid (fun W (hb : Below w.heap.size w W) => hl.later hb)
    have Hsc := Lib.hid (fun W Y1 y1 ys hb => HSC W Y1 y1 ys (h.later hb) hls)
    have HVa := Lib.hid hva
    have HSt := Lib.hid (fun W (hb : Below w.heap.size w W) (k : Nat) (hk : k < x.length) => stepsR_all traits need cl tl C T c t k W (h.later hb) hls (fun y hy => by
      have := (crdB_parts ((mdlB_parts hM).2.2.2.2.1 _ (List.mem_map_of_mem hy))).2.2.1
      simp only [CrdD.v, List.length_map] at this
      omega))
    have htl : ∀ k, k < x.length → ∀ y ∈ cl, k < y.scales.length := fun k hk y hy => by
      have := (crdB_parts ((mdlB_parts hM).2.2.2.2.1 _ (List.mem_map_of_mem hy))).2.2.1
      simp only [CrdD.v, List.length_map] at this
      omega
    have HSf : Hid (∀ k, k < x.length → (stepsI 0 1000000 (cutsT ⟨traits, cl.map CrdD.v, tl.map TreD.v, need⟩ k)).length ≤ 100000) := Lib.hid (fun k hk => (stepsI_fit 0 1000000 _ (by
      have e1 := flatMap_leR (f := fcC k) (l := cl) (fun y hy => fcC_len (m := ⟨traits, cl, C, c, tl, T, t, need⟩) hls hy (htl k hk y hy))
      have e2 := flatMap_leR (f := ftC k) (l := tl) (fun y hy => ftC_len (m := ⟨traits, cl, C, c, tl, T, t, need⟩) hls hy)
      have e3 := hls.cards
      have e4 := hls.trees
      dsimp only at e3 e4
      rw [cutsT_eq, List.length_append]
      omega)).1)
    have Hlb := Lib.hid hlb
    have Hlm := Lib.hid hlm
    clear h hx hl HSC HK HKE hg hM hv hls htr hvl hva hlb hlm htl
    go_enter Tryz.func6, Tryz.ntmps6
    go_upto_region 6 with (first
      | (go_at_call 11; (with_reducible refine (HAl.out _).mono ?_); rintro e w1 ⟨rfl, h1⟩; have b2 := b1.trans (h1.mono b1.size); have k2 := k1.below h1 q1; have k2c := k2.cell)
      | (go_at_call 24; (with_reducible refine (HRd.out _ b2).mono ?_); rintro e w2 ⟨rfl, h2⟩; have b3 := b2.trans (h2.mono b2.size); have k3 := k2.below h2 k2.lt))
    clear k1c k2c k1 k2 h1 h2 b1 b2 HRd HAl
    have HB3 := Lib.hid b3
    have HK3 := Lib.hid k3
    have HX3 := Hx.out _ b3
    obtain ⟨b, off, rfl, -, -⟩ := HX3 0 (by omega)
    have hE1 := own_empty w2 3 1 w2.heap.size (Nat.le_refl _)
    have D1 := (Below.refl w2.heap.size w2).alloc (Nat.le_refl _) (.cells #[] 3)
    have HX1 := Lib.hid (HX3.later D1)
    obtain ⟨i0, hi0, hy0, hy1, hy2⟩ := info_parts intInfo
    clear HX3 b3 k3
    go_upto_region 7 with (at_builtin; refine wpList_append_src _ rfl (.tmp 28) (.tmp 29) 31 rfl w2.heap.size 3 i0 _ 1 8 Tryz.underlying31 hi0 hy0 hy1 hy2 rfl (by decide) _ 0 [] rfl hE1 _ x.length xc (x.flatMap intC) rfl (by rw [flat_len intC_len]) (fun e => by cases e) (Flat.news intC_len (by decide) HX1.out) (flat_ones intC_one x) (by unfold maxLen; omega) (by omega) (by simp) ?_; intro v1 w5 hown1 hg1 _; rw [Nat.zero_add, List.nil_append] at hown1; obtain ⟨Y, yc, rfl⟩ := own_slice hown1; have e5 : Below w2.heap.size w2 w5 := D1.grown hg1 D1.size (fun k e => (hE1.lt k e).1))
    obtain ⟨gy, rr, hvy, hBy, hly⟩ := hown1.form (by omega)
    simp only [Value.slice.injEq, true_and] at hvy
    obtain ⟨rfl, rfl⟩ := hvy
    have HO := Lib.hid hown1
    clear hE1 D1 HX1 hg1 hown1
    have HB5 := Lib.hid (HB3.out.trans (e5.mono HB3.out.size))
    have HK5 := Lib.hid (HK3.out.below e5 HK3.out.lt)
    have gk : w.heap.size < w2.heap.size := HK3.out.lt
    have HE5 := Lib.hid e5
    have z5 := e5.size
    clear e5
    go_wp2_with fail
    go_loopw [33] (fun ii wr => ∃ i : Nat, i ≤ x.length ∧ ii = .int .i64 i ∧ Hid (∃ ys, BinI K i x ys ∧ wr.ownsRow w2.heap.size 3 1 (.slice (some ⟨gy, 0, none⟩) x.length yc) x.length (ys.flatMap intC) ∧ Below w2.heap.size w2 wr)) (fun ii _ => x.length - (vInt ii).toNat)
    case atStart => exact ⟨0, Nat.zero_le _, rfl, Lib.hid ⟨x, ⟨rfl, fun k hk => by omega, fun k _ => rfl⟩, HO.out, HE5.out⟩⟩
    case round =>
      obtain ⟨i, hi, rfl, hR⟩ := hrel
      obtain ⟨ys, HI0, hO, hB⟩ := hR.out
      have HI := Lib.hid HI0
      clear HI0 hR
      by_cases hlt : i < x.length
      · have hil : (i : Int) < (x.length : Int) := by omega
        have hyl := HI.out.1
        have hyx : ys.getD i 0 = x[i] := by rw [HI.out.2.2 i (Nat.le_refl _), getD_lt _ _ hlt]
        have hyg : ys[i]'(by omega) = x[i] := by rw [← getD_lt ys 0 (by omega)]; exact hyx
        have cy : wr.cell? ⟨gy, i, none⟩ = some (.int .i64 x[i]) := by
          have h9 := flat_get intC_len ys i (by omega) 0 (by decide)
          rw [Nat.mul_one, Nat.add_zero] at h9
          rw [hO.cellAt i (by omega), h9, hyg]; rfl
        have hfy := hO.frozenAt i
        have hv := HVa.out i hlt
        have hxg : x.getD i 0 = x[i] := getD_lt _ _ hlt
        by_cases hmi : x[i] = -1
        · have hmi2 : (x[i] == -1) = true := by simpa using hmi
          have HJ : Hid (BinI K (i + 1) x ys) := Lib.hid (by
            have hs : ys.set i (-1) = ys := by
              apply List.ext_getElem (by simp)
              intro k h1 h2
              rw [List.getElem_set]
              split
              · rename_i h9; subst h9; rw [hyg, hmi]
              · rfl
            obtain ⟨n1, n2⟩ := HKV.out ys i (-1) 0 0 hlt hyl (.inl ⟨by rw [hxg, hmi], rfl⟩)
            rw [hs] at n1
            refine ⟨hyl, fun k hk => ?_, fun k hk => HI.out.2.2 k (by omega)⟩
            rcases Nat.lt_or_ge k i with h9 | h9
            · exact HI.out.2.1 k h9
            · obtain rfl : k = i := by omega
              exact n1)
          have HOB := Lib.hid (And.intro hO hB)
          clear hyg hyx hxg hv hO hB HI hmi
          go_wp2_with fail
          go_roundw
          case rel => exact ⟨i + 1, by omega, by go_num, Lib.hid ⟨ys, HJ.out, HOB.out.1, HOB.out.2⟩⟩
          case measure => simp [vInt]; omega
        · have hmi2 : (x[i] == -1) = false := by simpa using hmi
          have bwr : Below w.heap.size w wr := HB3.out.trans (hB.mono HB3.out.size)
          have kwr := (HK3.out.below hB gk).cell
          have kwk := HK3.out.below hB gk
          have HS := Lib.hid (HSt.out wr bwr i hlt)
          have hLl := HSf.out i hlt
          have HLm : Hid (∀ st ∈ stepsI 0 1000000 (cutsT ⟨traits, cl.map CrdD.v, tl.map TreD.v, need⟩ i), 0 ≤ st ∧ st ≤ 1000000) := Lib.hid (fun st hs => by
            rcases (stepsI_mem ..).1 hs with e | ⟨_, e⟩
            · omega
            · unfold spanIn at e; simp only [Bool.and_eq_true, decide_eq_true_eq] at e; omega)
          have hw9 : IntKind.i64.wrap ((stepsI 0 1000000 (cutsT ⟨traits, cl.map CrdD.v, tl.map TreD.v, need⟩ i)).length : Int) = ((stepsI 0 1000000 (cutsT ⟨traits, cl.map CrdD.v, tl.map TreD.v, need⟩ i)).length : Int) := IntWalk.i64_in _ (by omega)
          have HXG := Lib.hid hxg
          have HYL := Lib.hid hyl
          have hv0 : 0 ≤ x[i] := by omega
          have hv1 := hv.2
          clear hyg hyx hxg hv hmi hyl
          generalize hL : stepsI 0 1000000 (cutsT ⟨traits, cl.map CrdD.v, tl.map TreD.v, need⟩ i) = ST at *
          have HST := Lib.hid hL
          clear hL
          go_wp2_with (go_at_call 25; (with_reducible refine (HS.out).mono ?_); rintro e w6 ⟨A6, c6, rfl, hA6, -, h6, -⟩)
          have HA6 := Lib.hid hA6
          have b6 := bwr.trans (h6.mono bwr.size)
          have cy6 : w6.cell? ⟨gy, i, none⟩ = some (.int .i64 x[i]) := (h6.cell (p := ⟨gy, i, none⟩) (by have := (hO.lt gy rfl).2; exact this)).trans cy
          have hO6 := own_below hO h6
          have hfy6 := hO6.frozenAt i
          obtain ⟨b', off', he, hbb, cx⟩ := ints_at (Hx.out w6 b6) hlt
          cases he
          have HXc := Lib.hid cx
          have HO6 := Lib.hid hO6
          have HB6 := Lib.hid (hB.trans (h6.mono hB.size))
          have HAt := Lib.hid (at6_any l L lc (i : Int) w6 (Hl.out w6 b6) Hlm.out (by omega) (by omega))
          clear cy hfy hO hB HS hA6 kwr kwk h6 cx hO6 bwr
          generalize hxv : x[i] = v at *
          clear hxv
          go_loopw [10, 11, 45] (fun aa bb kk wq => ∃ (k : Nat) (lo hi : Int), k ≤ ST.length ∧ aa = .int .i64 lo ∧ bb = .int .i64 hi ∧ kk = .int .i64 k ∧ wq = w6 ∧ Hid ((∀ j, j < k → (ST.getD j 0 ≤ v → ST.getD j 0 ≤ lo) ∧ (v < ST.getD j 0 → hi ≤ ST.getD j 0 - 1)) ∧ 0 ≤ lo ∧ lo ≤ v ∧ v ≤ hi ∧ hi ≤ 1000000)) (fun _ _ kk _ => ST.length - (vInt kk).toNat)
          case atStart => exact ⟨0, 0, 1000000, Nat.zero_le _, rfl, rfl, rfl, rfl, Lib.hid ⟨fun j hj => by omega, by omega, hv0, hv1, by omega⟩⟩
          case round =>
            obtain ⟨k, lo, hi', hk, rfl, rfl, rfl, rfl, hQ⟩ := hrel
            by_cases hkl : k < ST.length
            · have hki : (k : Int) < (ST.length : Int) := by omega
              obtain ⟨b2, o2, rfl, hb2, c2⟩ := ints_at HA6.out hkl
              have hsb := HLm.out ST[k] (List.getElem_mem hkl)
              have hsg : ST.getD k 0 = ST[k] := getD_lt _ _ hkl
              have cx := HXc.out
              generalize ST[k] = st at *
              have hw1 : IntKind.i64.wrap (st - 1) = st - 1 := IntWalk.i64_in _ (by omega)
              by_cases hle : st ≤ v
              · obtain ⟨nl, hnl⟩ : ∃ nl, (if st > lo then st else lo) = nl := ⟨_, rfl⟩
                have HN : Hid (nl = if st > lo then st else lo) := Lib.hid hnl.symm
                clear hsb
                go_wp2_with fail
                go_roundw
                case rel =>
                  have h9 := HN.out
                  have h8 := hQ.out
                  refine ⟨k + 1, nl, hi', by omega, by go_num, rfl, by go_num, trivial, Lib.hid ⟨fun j hj => ?_, ?_, ?_, h8.2.2.2.1, h8.2.2.2.2⟩⟩
                  · rcases Nat.lt_or_ge j k with h7 | h7
                    · have := h8.1 j h7
                      refine ⟨fun q => ?_, this.2⟩
                      have := this.1 q
                      rw [h9]; split <;> omega
                    · obtain rfl : j = k := by omega
                      rw [hsg]
                      refine ⟨fun q => ?_, fun q => by omega⟩
                      rw [h9]; split <;> omega
                  · rw [h9]; split <;> omega
                  · rw [h9]; split <;> omega
                case measure => simp [vInt]; omega
              · obtain ⟨nh, hnh⟩ : ∃ nh, (if st - 1 < hi' then st - 1 else hi') = nh := ⟨_, rfl⟩
                have HN : Hid (nh = if st - 1 < hi' then st - 1 else hi') := Lib.hid hnh.symm
                have HSB := Lib.hid hsb
                clear hsb
                go_wp2_with fail
                go_roundw
                case rel =>
                  have h9 := HN.out
                  have h8 := hQ.out
                  have h6 := HSB.out
                  refine ⟨k + 1, lo, nh, by omega, rfl, by go_num, by go_num, trivial, Lib.hid ⟨fun j hj => ?_, h8.2.1, h8.2.2.1, ?_, ?_⟩⟩
                  · rcases Nat.lt_or_ge j k with h7 | h7
                    · have := h8.1 j h7
                      refine ⟨this.1, fun q => ?_⟩
                      have := this.2 q
                      rw [h9]; split <;> omega
                    · obtain rfl : j = k := by omega
                      rw [hsg]
                      refine ⟨fun q => by omega, fun q => ?_⟩
                      rw [h9]; split <;> omega
                  · rw [h9]; split <;> omega
                  · rw [h9]; split <;> omega
                case measure => simp [vInt]; omega
            · have hki : ¬ (k : Int) < (ST.length : Int) := by omega
              obtain rfl : k = ST.length := by omega
              have h8 := hQ.out
              obtain ⟨d, hd⟩ := cutFit h8.2.1 (by omega : lo ≤ hi') h8.2.2.2.2 (atL_bd Hlb.out (i : Int))
              generalize atL l (i : Int) = a0 at *
              have HJ : Hid (BinI K (i + 1) x (ys.set i (lo + d))) := Lib.hid (by
                have hp := HKV.out ys i (lo + d) lo hi' hlt HYL.out (.inr ⟨by rw [HXG.out]; omega, fun st hst => by
                  rw [HXG.out]
                  rw [HST.out] at hst
                  obtain ⟨j, hj, rfl⟩ := List.mem_iff_getElem.1 hst
                  have := h8.1 j hj
                  rw [getD_lt _ _ hj] at this
                  exact this, h8.2.1, by rw [HXG.out]; exact h8.2.2.1, by rw [HXG.out]; exact h8.2.2.2.1, h8.2.2.2.2, by have := hd.d0; omega, by have := hd.d1; omega⟩)
                refine ⟨by rw [List.length_set]; exact HYL.out, fun k hk => ?_, fun k hk => ?_⟩
                · rcases Nat.lt_or_ge k i with h9 | h9
                  · exact hp.2 k h9 (HI.out.2.1 k h9)
                  · obtain rfl : k = i := by omega
                    exact hp.1
                · rw [getD_set_ne (by omega)]
                  exact HI.out.2.2 k (by omega))
              have HW : Hid ((wr.setCell ⟨gy, i, none⟩ (.int .i64 (lo + d))).ownsRow w2.heap.size 3 1 (.slice (some ⟨gy, 0, none⟩) x.length yc) x.length ((ys.set i (lo + d)).flatMap intC) ∧ Below w2.heap.size w2 (wr.setCell ⟨gy, i, none⟩ (.int .i64 (lo + d)))) := Lib.hid (by
                have h9 := flat_set intC_len ys i (by rw [HYL.out]; exact hlt) (lo + d) 0 (.int .i64 (lo + d)) (by decide) rfl
                rw [Nat.mul_one, Nat.add_zero] at h9
                rw [h9]
                exact ⟨(HO6.out.stored i (.int .i64 (lo + d))).1, HB6.out.setCell (p := ⟨gy, i, none⟩) hBy _⟩)
              obtain ⟨d1, d2, d3, d4, d5, d6, d7, d8, d9, d10, d11⟩ := hd
              clear h8 hQ
              go_wp2_with (go_at_call 26; (with_reducible refine (HAt.out).mono ?_); rintro e7 w7 ⟨rfl, rfl⟩)
              go_roundw
              case rel => exact ⟨i + 1, by omega, by go_num, Lib.hid ⟨_, HJ.out, HW.out.1, HW.out.2⟩⟩
              case measure => simp [vInt]; omega
      · have hil : ¬ (i : Int) < (x.length : Int) := by omega
        obtain rfl : i = x.length := by omega
        obtain ⟨t0, t1, t2, t3⟩ := HKF.out ys HI.out.1 HI.out.2.1
        have hyl := HI.out.1
        have sY : IntsAt wr wr.heap.size (some ⟨gy, 0, none⟩) ys := Flat.of_own (c := yc) intC_len (by decide) (by rw [hyl]; exact hO)
        have b9 := HB3.out.trans (hB.mono HB3.out.size)
        have k9 := HK3.out.below hB gk
        have HB9 := Lib.hid b9
        have C1 := Lib.hid (fun W (hb : Below wr.heap.size wr W) => by
          have h9 := Hsc.out W _ xc x (HB9.out.trans (hb.mono HB9.out.size)) (Hx.out W (HB9.out.trans (hb.mono HB9.out.size))) (by omega)
          rw [t0] at h9
          exact h9)
        have C2 := Lib.hid (fun W (hb : Below wr.heap.size wr W) => by
          have h9 := Hsc.out W _ yc ys (HB9.out.trans (hb.mono HB9.out.size)) (sY.later hb) (by omega)
          rw [t1, t2, t3, hyl] at h9
          exact h9)
        clear t0 t1 t2 t3 sY hyl HI hO HKF HKV Hsc Hh Hx Hl HSt HSf HVa Hlb Hlm HO
        generalize scN ⟨traits, cl.map CrdD.v, tl.map TreD.v, need⟩ x = n at *
        generalize scY ⟨traits, cl.map CrdD.v, tl.map TreD.v, need⟩ x = sy at *
        have k9c := k9.cell
        go_wp2_with (first
          | (go_at_call 12; (with_reducible refine (C1.out _ (Below.refl _ _)).mono ?_); rintro e10 w10 ⟨rfl, h10⟩; have k10c := (k9.below h10 k9.lt).cell)
          | (go_at_call 12; (with_reducible refine (C2.out _ h10).mono ?_); rintro e11 w11 ⟨rfl, h11⟩; have b11 := h10.trans (h11.mono h10.size)))
        go_ret
        exact ⟨rfl, b9.trans (b11.mono b9.size)⟩
end Go.Proofs.YtkimojiakabbcaaGreat
