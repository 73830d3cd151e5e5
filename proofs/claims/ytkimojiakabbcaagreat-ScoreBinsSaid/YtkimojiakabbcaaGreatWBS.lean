/- Values between the same cuts, by the steps of a trait. -/
import Derived.Test.YtkimojiakabbcaaGreatWB
import Derived.Test.YtkimojiakabbcaaGreatWBL
import Derived.Test.YtkimojiakabbcaaGreatWP2
import Derived.Test.YtkimojiakabbcaaGreatRAlv
import Derived.Test.YtkimojiakabbcaaGreatRows

namespace Go.Proofs.YtkimojiakabbcaaGreat

theorem same_bin {m : Mdl} {k : Nat} {v u lo hi : Int} (h : ∀ c ∈ stepsI 0 1000000 (cutsT m k), (c ≤ v → c ≤ lo) ∧ (v < c → hi ≤ c - 1)) (h0 : 0 ≤ lo) (h1 : lo ≤ v) (h2 : v ≤ hi) (h3 : hi ≤ 1000000) (h4 : lo ≤ u) (h5 : u ≤ hi) : ∀ c ∈ cutsT m k, (c ≤ v ↔ c ≤ u) := fun c hc => by
  by_cases hb : 0 < c ∧ c ≤ 1000000
  · have := h c ((stepsI_mem ..).2 (.inr ⟨hc, by unfold spanIn; simp [hb.1, hb.2]⟩))
    omega
  · omega
theorem valsB_iff {traits : Int} {x : List Int} : valsB traits x = true ↔ (x.length : Int) = traits ∧ ∀ k, k < x.length → -1 ≤ x.getD k 0 ∧ x.getD k 0 ≤ 1000000 := by
  unfold valsB
  simp only [Bool.and_eq_true, decide_eq_true_eq, List.all_eq_true]
  constructor
  · rintro ⟨h1, h2⟩
    refine ⟨h1, fun k hk => ?_⟩
    have := h2 x[k] (List.getElem_mem hk)
    rw [getD_lt _ _ hk]
    unfold valB at this
    exact inN_iff.1 this
  · rintro ⟨h1, h2⟩
    refine ⟨h1, fun z hz => ?_⟩
    obtain ⟨k, hk, rfl⟩ := List.mem_iff_getElem.1 hz
    have := h2 k hk
    rw [getD_lt _ _ hk] at this
    unfold valB
    exact inN_iff.2 this
/-- The values of a list, at each place between the same cuts as another's. -/
def BinK (m : Mdl) (x ys : List Int) (k : Nat) : Prop := (x.getD k 0 = -1 ↔ ys.getD k 0 = -1) ∧ (∀ c ∈ cutsT m k, (c ≤ x.getD k 0 ↔ c ≤ ys.getD k 0)) ∧ -1 ≤ ys.getD k 0 ∧ ys.getD k 0 ≤ 1000000
theorem bins_same {m : Mdl} {x ys : List Int} (hm : mdlB m = true) (hx : valsB m.traits x = true) (hl : ys.length = x.length) (h : ∀ k, k < x.length → BinK m x ys k) : forE m x = 0 ∧ forE m ys = 0 ∧ scN m ys = scN m x ∧ scY m ys = scY m x := by
  have h1 := (valsB_iff.1 hx).1
  have hy : valsB m.traits ys = true := valsB_iff.2 ⟨by omega, fun k hk => (h k (by omega)).2.2⟩
  have e1 : forE m x = 0 := by unfold forE; rw [if_pos hm, if_pos hx]
  have e2 : forE m ys = 0 := by unfold forE; rw [if_pos hm, if_pos hy]
  have e3 : scoreM m x = scoreM m ys := score_same hm h1 fun k hk => ⟨(h k hk).1, (h k hk).2.1⟩
  refine ⟨e1, e2, ?_, ?_⟩
  · unfold scN; rw [if_pos e1, if_pos e2, e3]
  · unfold scY; rw [if_pos e1, if_pos e2, e3]
end Go.Proofs.YtkimojiakabbcaaGreat

namespace Go.Proofs.YtkimojiakabbcaaGreat
open Go.ChangeShapes Go.WideShapes Go.ChangeAt Go.RowKit Go.Deep Go.Maps

theorem Tryz.own : ownKnob Tryz.prog.godebug = none := by kernel_rfl
theorem Tryz.laidOut : laidOutB Tryz.prog = true := by kernel_rfl
theorem binK_step {m : Mdl} {traits : Int} {x ys : List Int} {k : Nat} {u lo hi : Int} (hv : valsB traits x = true) (hk : k < x.length) (hl : ys.length = x.length) (hc : (x.getD k 0 = -1 ∧ u = -1) ∨ (x.getD k 0 ≠ -1 ∧ (∀ st ∈ stepsI 0 1000000 (cutsT m k), (st ≤ x.getD k 0 → st ≤ lo) ∧ (x.getD k 0 < st → hi ≤ st - 1)) ∧ 0 ≤ lo ∧ lo ≤ x.getD k 0 ∧ x.getD k 0 ≤ hi ∧ hi ≤ 1000000 ∧ lo ≤ u ∧ u ≤ hi)) : BinK m x (ys.set k u) k ∧ ∀ j, j < k → BinK m x ys j → BinK m x (ys.set k u) j := by
  have hg : (ys.set k u).getD k 0 = u := by rw [getD_setI _ _ _ _ (by omega)]; simp
  have hvk := (valsB_iff.1 hv).2 k hk
  refine ⟨?_, fun j hj hK => ?_⟩
  · unfold BinK
    rw [hg]
    rcases hc with ⟨h1, h2⟩ | ⟨h1, h2, h3, h4, h5, h6, h7, h8⟩
    · rw [h1, h2]; exact ⟨Iff.rfl, fun c _ => Iff.rfl, by omega, by omega⟩
    · exact ⟨⟨fun e => absurd e h1, fun e => by omega⟩, same_bin h2 h3 h4 h5 h6 h7 h8, by omega, by omega⟩
  · unfold BinK at hK ⊢
    rw [getD_set_ne (by omega)]
    exact hK
set_option maxRecDepth 100000 in
theorem scoreBins_lifted (os : Os) (started : os.Started) (H : Type) (enc : TypeId × Value → H) :
    ReturnsInHanded {} Tryz.checked os 6 .any (Rows.scoreBinsSpec.pre6 enc Tryz.prog Tryz.f6 Rows.scoreBinsRow.domain false) (Rows.scoreBinsSpec.post enc Tryz.prog Tryz.f6 false true false false) := by
  refine returnsInHanded_of_change (C := Tryz.checked) Tryz.own started (by kernel_rfl) Tryz.func6
    (ChangeSpec.witness6 (enc := enc) (C := Tryz.checked) false ⟨#[], #[.agg #[.int .i64 0, .slice none 0 0, .slice none 0 0, .int .i64 0], .slice none 0 0, .slice none 0 0], []⟩ 8 (by kernel_rfl) (by kernel_rfl) (by kernel_rfl) (by kernel_rfl)) ?_
  intro W base args ds gs before hval0 hW _ _
  have hval : ∀ (j : Nat) t v, Tryz.f6.params[j]? = some t → args[j]? = some v → Value.okWide Tryz.prog W .any base t v := hval0
  have hW' := hW
  obtain ⟨p, q, hA0, hV, rfl, _, _⟩ := hW
  have hA : DataW.TrodAll enc Tryz.prog W 0 (fun _ => true) true Tryz.f6.params.toList args.toList ds p := hA0
  rw [Tryz.params6] at hA hval
  obtain ⟨v0, v1, v2, d0, d1, d2, p0, p1, p2, rfl, rfl, rfl, h0, h1, h2⟩ := trodAll_three hA
  obtain ⟨rfl, rfl⟩ := trodVars_none hV
  have k0 := h0
  have k1 := h1
  have k2 := h2
  obtain ⟨cs0, rfl, _⟩ := okWide_struct Tryz.underlying29 (hval 0 29 v0 rfl rfl)
  obtain ⟨a1, n1, m1, rfl⟩ := okWide_slice Tryz.underlying31 (hval 1 31 v1 rfl rfl)
  obtain ⟨a2, n2, m2, rfl⟩ := okWide_slice Tryz.underlying61 (hval 2 61 v2 rfl rfl)
  obtain ⟨f0, hf0⟩ := h0
  obtain ⟨f1, hf1⟩ := h1
  obtain ⟨f2, hf2⟩ := h2
  obtain ⟨z, hu, hm⟩ := mdl_of_trod _ _ _ (show DataW.trod enc Tryz.prog W 0 (fun _ => true) true f0 29 cs0.toList = some (d0, p0) from hf0)
  obtain ⟨X1, xc1, x1, hs1, hx1, hb1, hl1⟩ := ints_of_trod (show DataW.trod enc Tryz.prog W 0 (fun _ => true) true f1 31 [.slice a1 n1 m1] = some (d1, p1) from hf1)
  obtain ⟨rfl, rfl, rfl⟩ : a1 = X1 ∧ n1 = x1.length ∧ m1 = xc1 := by simpa using hs1
  obtain ⟨X2, xc2, x2, hs2, hx2, hb2, hl2⟩ := u32s_of_trod (show DataW.trod enc Tryz.prog W 0 (fun _ => true) true f2 61 [.slice a2 n2 m2] = some (d2, p2) from hf2)
  obtain ⟨rfl, rfl, rfl⟩ : a2 = X2 ∧ n2 = x2.length ∧ m2 = xc2 := by simpa using hs2
  obtain ⟨traits, cl, C, c, tl, T, t, need⟩ := z
  obtain rfl : cs0 = #[.int .i64 traits, .slice C cl.length c, .slice T tl.length t, .int .i64 need] := by rw [← Array.toList_inj, hu]
  clear hA0 hval0 hf0 hf1 hf2
  simp only [List.append_nil] at hW'
  have hlt : ∀ y ∈ p0 ++ p1 ++ p2, y.block < W.heap.size := fun y hy => by simpa using hW'.lt y hy
  refine (scoreBins_any traits need cl tl C T c t x1 a1 m1 x2 a2 m2 W hm hx1 hl1 hx2 hl2 hb2 (BinK ⟨traits, cl.map CrdD.v, tl.map TreD.v, need⟩ x1) (fun W' => alive_any W') (fun W' Y1 y1 ys h' hls hy hl' => scoreP_all traits need cl tl C T c t ys Y1 y1 W' h' hls hy hl') (fun hv ys k u lo hi hk hl hc => binK_step hv hk hl hc) (fun hM hv ys hl hK => bins_same hM hv hl hK)).mono fun e W' ⟨he, hb⟩ => ?_
  subst he
  refine ⟨_, rfl, _, _, _, [], p0 ++ p1 ++ p2, [], hW', ?_, ?_, rfl, hb.frame _, fun h => by cases h⟩
  · exact trodAll_mk1 (shut_bool Tryz.underlying4 true)
  · have ht := trodAll_mk3 (Below.trod Tryz.laidOut (by kernel_rfl) (of_decide_eq_true (by kernel_rfl)) k0 hb fun y hy => hlt y (by simp [hy])) (Below.trod Tryz.laidOut (by kernel_rfl) (of_decide_eq_true (by kernel_rfl)) k1 hb fun y hy => hlt y (by simp [hy])) (Below.trod Tryz.laidOut (by kernel_rfl) (of_decide_eq_true (by kernel_rfl)) k2 hb fun y hy => hlt y (by simp [hy]))
    rw [← List.append_assoc] at ht
    exact ht

theorem scoreBins_holds : Rows.ScoreBinsSaid :=
  OpenClaim.holds_of_wide 6 Tryz.f6 rfl rfl rfl rfl rfl rfl rfl ⟨rfl, rfl, rfl, rfl, rfl⟩ rfl rfl rfl rfl rfl (by kernel_rfl) Tryz.func6 (by kernel_rfl)
    (of_decide_eq_true (by kernel_rfl)) (by unfold Func.isWrapper; first | (rw [if_pos (by decide +kernel)]; kernel_rfl) | (rw [if_neg (by decide +kernel)]; exact ⟨rfl, rfl⟩))
    (fun os started H enc _ => scoreBins_lifted os started H enc)

#print axioms scoreBins_holds
end Go.Proofs.YtkimojiakabbcaaGreat
