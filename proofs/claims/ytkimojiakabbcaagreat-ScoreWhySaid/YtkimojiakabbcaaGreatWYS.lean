/- What the law on reasons asks of them holds. -/
import Derived.Test.YtkimojiakabbcaaGreatWYN
import Derived.Test.YtkimojiakabbcaaGreatWYL
import Derived.Test.YtkimojiakabbcaaGreatWP2
import Derived.Test.YtkimojiakabbcaaGreatRAlv
import Derived.Test.YtkimojiakabbcaaGreatRows

namespace Go.Proofs.YtkimojiakabbcaaGreat
open Go.RowKit Go.Maps

theorem scY_was {m : Mdl} {y : List Int} (h : forE m y = 0) : scY m y = wasB m.need (scoreM m y) := by unfold scY wasB; rw [if_pos h]
theorem forE_free {m : Mdl} {x y : List Int} {q : Nat → Bool} (hm : mdlB m = true) (hx : valsB m.traits x = true) (hy : FreeAt q x y) : forE m y = 0 := by
  have h1 := valsB_iff.1 hx
  have hv : valsB m.traits y = true := valsB_iff.2 ⟨by rw [hy.1]; exact h1.1, fun k hk => by
    rw [hy.1] at hk
    have h2 := hy.2 k hk
    have h3 := h1.2 k hk
    cases hq : q k with
    | true => have := h2.1 hq; omega
    | false => have := h2.2 hq; omega⟩
  unfold forE; rw [if_pos hm, if_pos hv]
theorem setF_at {p : Nat → Bool} {T i : Nat} (h : i < (setF p T).length) : ∃ k : Nat, (setF p T).getD i 0 = k ∧ k < T ∧ p k = true := by
  have hm : (setF p T).getD i 0 ∈ setF p T := by rw [getD_lt _ _ h]; exact List.getElem_mem h
  have hm2 := hm
  unfold setF at hm2
  obtain ⟨k, _, e⟩ := List.mem_map.1 hm2
  have e2 : (setF p T).getD i 0 = (k : Int) := e.symm
  rw [e2] at hm
  exact ⟨k, e2, setF_mem.1 hm⟩
theorem setF_lt {p : Nat → Bool} {T i j : Nat} (hij : i < j) (h : j < (setF p T).length) : (setF p T).getD i 0 < (setF p T).getD j 0 := by
  rw [getD_lt _ _ (by omega), getD_lt _ _ h]
  exact List.pairwise_iff_getElem.1 (setF_incr p T) i j (by omega) h hij
theorem setF_len (p : Nat → Bool) (T : Nat) : (setF p T).length ≤ T := by
  unfold setF
  rw [List.length_map]
  exact Nat.le_trans (List.length_filter_le _ _) (by simp)
theorem setF_ix {p : Nat → Bool} {T k : Nat} (hk : k < T) (hp : p k = true) : ∃ i, i < (setF p T).length ∧ (setF p T).getD i 0 = k := by
  obtain ⟨i, hi, e⟩ := List.mem_iff_getElem.1 (setF_mem.2 ⟨hk, hp⟩)
  exact ⟨i, hi, by rw [getD_lt _ _ hi]; exact e⟩
theorem pick_at {s y : List Int} {i : Nat} (h : i < s.length) : (pickV s y).getD i 0 = y.getD (s.getD i 0).toNat 0 := by
  unfold pickV
  rw [getD_lt _ _ (by simpa using h), getD_lt _ _ h, List.getElem_map]
theorem whyF_all {m : Mdl} {x : List Int} (hm : mdlB m = true) (hx : valsB m.traits x = true) : WhyF m x (reaS m x) (reaV m x) (reaE m x) := by
  have hF : forE m x = 0 := by unfold forE; rw [if_pos hm, if_pos hx]
  cases hr : reaR m x with
  | none =>
    have e1 : reaE m x = 6 := by unfold reaE; rw [if_pos hF, hr]; rfl
    have e2 : reaS m x = [] := by unfold reaS; rw [if_pos hF, hr]; rfl
    have e3 : reaV m x = [] := by unfold reaV; rw [if_pos hF, hr]; rfl
    rw [e1, e2, e3]
    refine ⟨.inl rfl, fun _ => ⟨rfl, rfl⟩, fun b y hl hf => ?_, fun e => absurd e (by decide), fun e => absurd e (by decide)⟩
    have hy : FreeAt (bitN b) x y := ⟨hl, hf⟩
    refine ⟨forE_free hm hx hy, fun _ => ?_, fun e => absurd e (by decide)⟩
    rw [scY_was (forE_free hm hx hy), scY_was hF]
    obtain ⟨u, hu, he, _⟩ := free_step hm hx hy
    rw [← he]
    exact reas_none hr _ (setF_sets (bitN b) x.length) u hu
  | some sv =>
    obtain ⟨s, v⟩ := sv
    have e1 : reaE m x = 0 := by unfold reaE; rw [if_pos hF, hr]; rfl
    have e2 : reaS m x = s := by unfold reaS; rw [if_pos hF, hr]; rfl
    have e3 : reaV m x = v := by unfold reaV; rw [if_pos hF, hr]; rfl
    rw [e1, e2, e3]
    obtain ⟨p, y0, R⟩ := reas_of hr
    have hsp := R.set
    have hvp := R.vals
    have hmem := R.mem
    rw [hsp] at hmem
    have hf0 := free_within hmem
    have hsne := reaR_ne hr
    have hvl : v.length = s.length := by rw [hvp]; unfold pickV; rw [List.length_map]
    refine ⟨.inr rfl, fun e => absurd e (by decide), fun b y hl hf => ?_, fun _ => ⟨hsne, hvl, by rw [hsp]; exact setF_len _ _, fun i hi => ?_⟩, fun _ z hzl hzs hzx => ?_⟩
    · have hy : FreeAt (bitN b) x y := ⟨hl, hf⟩
      refine ⟨forE_free hm hx hy, fun e => absurd e (by decide), fun _ hne => ?_⟩
      rw [scY_was (forE_free hm hx hy), scY_was hF] at hne
      have hl1 : ¬ cmpS (setB b x.length) s < 0 := reas_least R hm hx hy hne
      have hlen : s.length ≤ (setB b x.length).length := by
        rcases Nat.lt_or_ge (setB b x.length).length s.length with h9 | h9
        · exfalso
          apply hl1
          unfold cmpS
          have : cmpI ((setB b x.length).length : Int) s.length < 0 := cmpI_neg.2 (by omega)
          rw [if_pos (by omega)]
          exact this
        · exact h9
      refine ⟨hlen, fun i hi he hpre hdif => ?_, fun hS i hi hpre hdif => ?_⟩
      · have hL : ¬ cmpL (setB b x.length) s < 0 := fun h9 => by
          apply hl1
          unfold cmpS
          rw [if_neg (by rw [cmpI_zero.2 (by omega)]; simp)]
          exact h9
        have h2 : cmpL s (setB b x.length) < 0 ∨ s = setB b x.length := by
          rcases cmpL_flip s (setB b x.length) with h9 | h9 | h9
          · exact .inl h9
          · exact .inr (cmpL_zero.1 h9)
          · exact absurd h9 hL
        have h3 := cmpL_le (k := i) (n := i) he.symm h2 (fun j hj => (hpre j hj).symm) hi
        omega
      · have hpb : ∀ k, k < x.length → bitN b k = p k := fun k hk => by
          have h1 : (k : Int) ∈ setB b x.length ↔ k < x.length ∧ bitN b k = true := setB_mem
          rw [hS, hsp, setF_mem] at h1
          cases h2 : bitN b k <;> cases h3 : p k <;> simp_all
        have hyp : FreeAt p x y := ⟨hl, fun k hk => by rw [← hpb k hk]; exact hf k hk⟩
        rw [hsp] at hi hpre hdif ⊢
        obtain ⟨k, k1, k2, k3⟩ := setF_at hi
        have hvi : v.getD i 0 = y0.getD k 0 := by rw [hvp, pick_at (by rw [hsp]; exact hi), hsp, k1, Int.toNat_natCast]
        rw [k1, Int.toNat_natCast, hvi] at hdif ⊢
        refine reas_first R hm hx hyp hne k2 (fun j hj => ?_) hdif
        cases hpj : p j with
        | true =>
          obtain ⟨i', h1, h2⟩ := setF_ix (T := x.length) (by omega) hpj
          have hii : i' < i := by
            rcases Nat.lt_or_ge i' i with h9 | h9
            · exact h9
            · rcases Nat.lt_or_ge i i' with h8 | h8
              · have := setF_lt h8 h1; omega
              · obtain rfl : i = i' := by omega
                omega
          have h3 := hpre i' hii
          rw [h2, Int.toNat_natCast] at h3
          rw [h3, hvp, pick_at (by rw [hsp]; exact h1), hsp, h2, Int.toNat_natCast]
        | false => rw [(hyp.2 j (by omega)).2 hpj, (hf0.2 j (by omega)).2 hpj]
    · have hi2 := hi
      rw [hsp] at hi2
      obtain ⟨k, k1, k2, k3⟩ := setF_at hi2
      have hvi : v.getD i 0 = y0.getD k 0 := by rw [hvp, pick_at hi, hsp, k1, Int.toNat_natCast]
      have h9 := (hf0.2 k k2).1 k3
      refine ⟨k, by rw [hsp]; exact k1, k2, fun j hj => ?_, by rw [hvi]; exact h9.1, by rw [hvi]; exact h9.2, by rw [hvi]; exact reas_ne R hm hx k2 k3⟩
      rw [hsp, ← k1]
      exact setF_lt hj hi2
    · have hzy : z = y0 := by
        refine List.ext_getElem (by rw [hzl, hf0.1]) fun k h1 h2 => ?_
        rw [← getD_lt z 0 h1, ← getD_lt y0 0 h2]
        have hk : k < x.length := by omega
        cases hp : p k with
        | true =>
          obtain ⟨i, h3, h4⟩ := setF_ix (T := x.length) hk hp
          have h5 := hzs i (by rw [hsp]; exact h3)
          rw [hvp, pick_at (by rw [hsp]; exact h3), hsp, h4, Int.toNat_natCast] at h5
          exact h5
        | false =>
          rw [(hf0.2 k hk).2 hp]
          refine hzx k hk fun i hi e => ?_
          rw [hsp] at hi e
          obtain ⟨k', k1, _, k3⟩ := setF_at hi
          rw [k1] at e
          obtain rfl : k' = k := by omega
          rw [hp] at k3; cases k3
      subst hzy
      exact ⟨forE_free hm hx hf0, by rw [scY_was (forE_free hm hx hf0), scY_was hF]; exact R.other⟩
end Go.Proofs.YtkimojiakabbcaaGreat

namespace Go.Proofs.YtkimojiakabbcaaGreat
open Go.ChangeShapes Go.WideShapes Go.ChangeAt Go.RowKit Go.Deep Go.Maps

theorem Tryz.own : ownKnob Tryz.prog.godebug = none := by kernel_rfl
theorem Tryz.laidOut : laidOutB Tryz.prog = true := by kernel_rfl
theorem scoreWhy_int (traits need : Int) (cl : List CrdD) (tl : List TreD) (C T : Option Addr) (c t : Nat) (x : List Int) (X : Option Addr) (xc : Nat) (n : Int) (l : List Int) (L : Option Addr) (lc : Nat) (w : World) (h : MdlAt w w.heap.size ⟨traits, cl, C, c, tl, T, t, need⟩) (hx : IntsAt w w.heap.size X x) (hxm : x.length ≤ maxLen) (hn : 0 ≤ n ∧ n < 256) (hl : U32At w w.heap.size L l) (hlm : l.length ≤ maxLen) (hlb : ∀ z ∈ l, 0 ≤ z ∧ z < 4294967296) :
    Calls Tryz.prog 7 #[.agg #[.int .i64 traits, .slice C cl.length c, .slice T tl.length t, .int .i64 need], .slice X x.length xc, .int .u8 n, .slice L l.length lc] w fun e w' => e = .returned (.bool true) ∧ Below w.heap.size w w' := by
  obtain ⟨b, rfl⟩ : ∃ b : Nat, n = (b : Int) := ⟨n.toNat, by omega⟩
  exact scoreWhy_any traits need cl tl C T c t x X xc b l L lc (reaS ⟨traits, cl.map CrdD.v, tl.map TreD.v, need⟩ x) (reaV ⟨traits, cl.map CrdD.v, tl.map TreD.v, need⟩ x) (reaE ⟨traits, cl.map CrdD.v, tl.map TreD.v, need⟩ x) w h hx hxm (by omega) hl hlm hlb (fun W' => alive_any W') (fun W' Y1 y1 ys h' hls hy hl' => scoreP_all traits need cl tl C T c t ys Y1 y1 W' h' hls hy hl')
    (fun _ _ W' h' hls hx' hl' => (reasonsP_all traits need cl tl C T c t x X xc W' h' hls hx' hl').mono fun e w' hr => by
      obtain ⟨hb, A, a, B, b', he, hA, hB⟩ := hr
      exact ⟨A, a, B, b', he, hA, hB, hb⟩)
    (fun hM hv => whyF_all hM hv)
set_option maxRecDepth 100000 in
theorem scoreWhy_lifted (os : Os) (started : os.Started) (H : Type) (enc : TypeId × Value → H) :
    ReturnsInHanded {} Tryz.checked os 7 .any (Rows.scoreWhySpec.pre6 enc Tryz.prog Tryz.f7 Rows.scoreWhyRow.domain false) (Rows.scoreWhySpec.post enc Tryz.prog Tryz.f7 false true false false) := by
  refine returnsInHanded_of_change (C := Tryz.checked) Tryz.own started (by kernel_rfl) Tryz.func7
    (ChangeSpec.witness6 (enc := enc) (C := Tryz.checked) false ⟨#[], #[.agg #[.int .i64 0, .slice none 0 0, .slice none 0 0, .int .i64 0], .slice none 0 0, .int .u8 0, .slice none 0 0], []⟩ 8 (by kernel_rfl) (by kernel_rfl) (by kernel_rfl) (by kernel_rfl)) ?_
  intro W base args ds gs before hval0 hW _ _
  have hval : ∀ (j : Nat) t v, Tryz.f7.params[j]? = some t → args[j]? = some v → Value.okWide Tryz.prog W .any base t v := hval0
  have hW' := hW
  obtain ⟨p, q, hA0, hV, rfl, _, _⟩ := hW
  have hA : DataW.TrodAll enc Tryz.prog W 0 (fun _ => true) true Tryz.f7.params.toList args.toList ds p := hA0
  rw [Tryz.params7] at hA hval
  obtain ⟨v0, v1, v2, v3, d0, d1, d2, d3, p0, p1, p2, p3, rfl, rfl, rfl, h0, h1, h2, h3⟩ := trodAll_four hA
  obtain ⟨rfl, rfl⟩ := trodVars_none hV
  have k0 := h0
  have k1 := h1
  have k2 := h2
  have k3 := h3
  obtain ⟨cs0, rfl, _⟩ := okWide_struct Tryz.underlying29 (hval 0 29 v0 rfl rfl)
  obtain ⟨a1, n1, m1, rfl⟩ := okWide_slice Tryz.underlying31 (hval 1 31 v1 rfl rfl)
  obtain ⟨n2, rfl⟩ := okWide_int Tryz.underlying5 (hval 2 5 v2 rfl rfl)
  obtain ⟨a3, n3, m3, rfl⟩ := okWide_slice Tryz.underlying61 (hval 3 61 v3 rfl rfl)
  obtain ⟨f0, hf0⟩ := h0
  obtain ⟨f1, hf1⟩ := h1
  obtain ⟨f2, hf2⟩ := h2
  obtain ⟨f3, hf3⟩ := h3
  obtain ⟨z, hu, hm⟩ := mdl_of_trod _ _ _ (show DataW.trod enc Tryz.prog W 0 (fun _ => true) true f0 29 cs0.toList = some (d0, p0) from hf0)
  obtain ⟨X1, xc1, x1, hs1, hx1, hb1, hl1⟩ := ints_of_trod (show DataW.trod enc Tryz.prog W 0 (fun _ => true) true f1 31 [.slice a1 n1 m1] = some (d1, p1) from hf1)
  obtain ⟨rfl, rfl, rfl⟩ : a1 = X1 ∧ n1 = x1.length ∧ m1 = xc1 := by simpa using hs1
  obtain ⟨y2, e2, hn2⟩ := u8_of_trod _ _ _ (show DataW.trod enc Tryz.prog W 0 (fun _ => true) true f2 5 [.int .u8 n2] = some (d2, p2) from hf2)
  obtain rfl : n2 = y2 := by simpa using e2
  obtain ⟨X3, xc3, x3, hs3, hx3, hb3, hl3⟩ := u32s_of_trod (show DataW.trod enc Tryz.prog W 0 (fun _ => true) true f3 61 [.slice a3 n3 m3] = some (d3, p3) from hf3)
  obtain ⟨rfl, rfl, rfl⟩ : a3 = X3 ∧ n3 = x3.length ∧ m3 = xc3 := by simpa using hs3
  obtain ⟨traits, cl, C, c, tl, T, t, need⟩ := z
  obtain rfl : cs0 = #[.int .i64 traits, .slice C cl.length c, .slice T tl.length t, .int .i64 need] := by rw [← Array.toList_inj, hu]
  clear hA0 hval0 hf0 hf1 hf2 hf3
  simp only [List.append_nil] at hW'
  have hlt : ∀ y ∈ p0 ++ p1 ++ p2 ++ p3, y.block < W.heap.size := fun y hy => by simpa using hW'.lt y hy
  refine (scoreWhy_int traits need cl tl C T c t x1 a1 m1 n2 x3 a3 m3 W hm hx1 hl1 hn2 hx3 hl3 hb3).mono fun e W' ⟨he, hb⟩ => ?_
  subst he
  refine ⟨_, rfl, _, _, _, [], p0 ++ p1 ++ p2 ++ p3, [], hW', ?_, ?_, rfl, hb.frame _, fun h => by cases h⟩
  · exact trodAll_mk1 (shut_bool Tryz.underlying4 true)
  · have ht := trodAll_mk4 (Below.trod Tryz.laidOut (by kernel_rfl) (of_decide_eq_true (by kernel_rfl)) k0 hb fun y hy => hlt y (by simp [hy])) (Below.trod Tryz.laidOut (by kernel_rfl) (of_decide_eq_true (by kernel_rfl)) k1 hb fun y hy => hlt y (by simp [hy])) (Below.trod Tryz.laidOut (by kernel_rfl) (of_decide_eq_true (by kernel_rfl)) k2 hb fun y hy => hlt y (by simp [hy])) (Below.trod Tryz.laidOut (by kernel_rfl) (of_decide_eq_true (by kernel_rfl)) k3 hb fun y hy => hlt y (by simp [hy]))
    rw [← List.append_assoc, ← List.append_assoc] at ht
    exact ht

theorem scoreWhy_holds : Rows.ScoreWhySaid :=
  OpenClaim.holds_of_wide 7 Tryz.f7 rfl rfl rfl rfl rfl rfl rfl ⟨rfl, rfl, rfl, rfl, rfl⟩ rfl rfl rfl rfl rfl (by kernel_rfl) Tryz.func7 (by kernel_rfl)
    (of_decide_eq_true (by kernel_rfl)) (by unfold Func.isWrapper; first | (rw [if_pos (by decide +kernel)]; kernel_rfl) | (rw [if_neg (by decide +kernel)]; exact ⟨rfl, rfl⟩))
    (fun os started H enc _ => scoreWhy_lifted os started H enc)

#print axioms scoreWhy_holds
end Go.Proofs.YtkimojiakabbcaaGreat
