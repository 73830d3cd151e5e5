/- ScoreMore: for every model that is not great, all values, and what is changed by numbers: the law returns true, and the arguments stay. Conditions: none but those of the statement. -/
import Derived.Test.YtpahcbhikmfamaaGreatMRL
import Derived.Test.YtpahcbhikmfamaaGreatSTwin2
import Derived.Test.YtpahcbhikmfamaaGreatWP2
import Derived.Test.YtpahcbhikmfamaaGreatRAlv
import Derived.Test.YtpahcbhikmfamaaGreatRows

namespace Go.Proofs.YtpahcbhikmfamaaGreat
open Go.ChangeShapes Go.WideShapes Go.ChangeAt Go.RowKit Go.Deep Go.Maps

theorem Tryz.own : ownKnob Tryz.prog.godebug = none := by kernel_rfl
theorem Tryz.laidOut : laidOutB Tryz.prog = true := by kernel_rfl
set_option maxRecDepth 100000 in
theorem scoreMore_lifted (os : Os) (started : os.Started) (H : Type) (enc : TypeId × Value → H) :
    ReturnsInHanded {} Tryz.checked os 3 .any (Rows.scoreMoreSpec.pre6 enc Tryz.prog Tryz.f3 Rows.scoreMoreRow.domain false) (Rows.scoreMoreSpec.post enc Tryz.prog Tryz.f3 false true false false) := by
  refine returnsInHanded_of_change (C := Tryz.checked) Tryz.own started (by kernel_rfl) Tryz.func3
    (ChangeSpec.witness6 (enc := enc) (C := Tryz.checked) false ⟨#[], #[.agg #[.int .i64 0, .slice none 0 0, .slice none 0 0, .int .i64 0], .slice none 0 0, .slice none 0 0], []⟩ 8 (by kernel_rfl) (by kernel_rfl) (by kernel_rfl) (by kernel_rfl)) ?_
  intro W base args ds gs before hval0 hW _ _
  have hval : ∀ (j : Nat) t v, Tryz.f3.params[j]? = some t → args[j]? = some v → Value.okWide Tryz.prog W .any base t v := hval0
  have hW' := hW
  obtain ⟨p, q, hA0, hV, rfl, _, _⟩ := hW
  have hA : DataW.TrodAll enc Tryz.prog W 0 (fun _ => true) true Tryz.f3.params.toList args.toList ds p := hA0
  rw [Tryz.params3] at hA hval
  obtain ⟨v0, v1, v2, d0, d1, d2, p0, p1, p2, rfl, rfl, rfl, h0, h1, h2⟩ := trodAll_three hA
  obtain ⟨rfl, rfl⟩ := trodVars_none hV
  have k0 := h0
  have k1 := h1
  have k2 := h2
  obtain ⟨cs0, rfl, _⟩ := okWide_struct Tryz.underlying25 (hval 0 25 v0 rfl rfl)
  obtain ⟨a1, n1, m1, rfl⟩ := okWide_slice Tryz.underlying26 (hval 1 26 v1 rfl rfl)
  obtain ⟨a2, n2, m2, rfl⟩ := okWide_slice Tryz.underlying27 (hval 2 27 v2 rfl rfl)
  obtain ⟨f0, hf0⟩ := h0
  obtain ⟨f1, hf1⟩ := h1
  obtain ⟨f2, hf2⟩ := h2
  obtain ⟨z, hu, hm⟩ := mdl_of_trod _ _ _ (show DataW.trod enc Tryz.prog W 0 (fun _ => true) true f0 25 cs0.toList = some (d0, p0) from hf0)
  obtain ⟨X1, xc1, x1, hs1, hx1, hb1, hl1⟩ := ints_of_trod (show DataW.trod enc Tryz.prog W 0 (fun _ => true) true f1 26 [.slice a1 n1 m1] = some (d1, p1) from hf1)
  obtain ⟨rfl, rfl, rfl⟩ : a1 = X1 ∧ n1 = x1.length ∧ m1 = xc1 := by simpa using hs1
  obtain ⟨X2, xc2, x2, hs2, hx2, hb2, hl2⟩ := u32s_of_trod (show DataW.trod enc Tryz.prog W 0 (fun _ => true) true f2 27 [.slice a2 n2 m2] = some (d2, p2) from hf2)
  obtain ⟨rfl, rfl, rfl⟩ : a2 = X2 ∧ n2 = x2.length ∧ m2 = xc2 := by simpa using hs2
  obtain ⟨traits, cl, C, c, tl, T, t, need⟩ := z
  obtain rfl : cs0 = #[.int .i64 traits, .slice C cl.length c, .slice T tl.length t, .int .i64 need] := by rw [← Array.toList_inj, hu]
  clear hA0 hval0 hf0 hf1 hf2
  simp only [List.append_nil] at hW'
  have hlt : ∀ y ∈ p0 ++ p1 ++ p2, y.block < W.heap.size := fun y hy => by simpa using hW'.lt y hy
  refine (scoreMore_any traits need cl tl C T c t x1 a1 m1 x2 a2 m2 W hm hx1 hl1 hx2 hl2 hb2 (fun W' => alive_any W') (fun W' h' hls => twinN_all traits need cl tl C T c t W' h' hls)).mono fun e W' ⟨he, hb⟩ => ?_
  subst he
  refine ⟨_, rfl, _, _, _, [], p0 ++ p1 ++ p2, [], hW', ?_, ?_, rfl, hb.frame _, fun h => by cases h⟩
  · exact trodAll_mk1 (shut_bool Tryz.underlying4 true)
  · have ht := trodAll_mk3 (Below.trod Tryz.laidOut (by kernel_rfl) (of_decide_eq_true (by kernel_rfl)) k0 hb fun y hy => hlt y (by simp [hy])) (Below.trod Tryz.laidOut (by kernel_rfl) (of_decide_eq_true (by kernel_rfl)) k1 hb fun y hy => hlt y (by simp [hy])) (Below.trod Tryz.laidOut (by kernel_rfl) (of_decide_eq_true (by kernel_rfl)) k2 hb fun y hy => hlt y (by simp [hy]))
    rw [← List.append_assoc] at ht
    exact ht

theorem scoreMore_holds : Rows.ScoreMoreSaid :=
  OpenClaim.holds_of_wide 3 Tryz.f3 rfl rfl rfl rfl rfl rfl rfl ⟨rfl, rfl, rfl, rfl, rfl⟩ rfl rfl rfl rfl rfl (by kernel_rfl) Tryz.func3 (by kernel_rfl)
    (of_decide_eq_true (by kernel_rfl)) (by unfold Func.isWrapper; first | (rw [if_pos (by decide +kernel)]; kernel_rfl) | (rw [if_neg (by decide +kernel)]; exact ⟨rfl, rfl⟩))
    (fun os started H enc _ => scoreMore_lifted os started H enc)

#print axioms scoreMore_holds
end Go.Proofs.YtpahcbhikmfamaaGreat
