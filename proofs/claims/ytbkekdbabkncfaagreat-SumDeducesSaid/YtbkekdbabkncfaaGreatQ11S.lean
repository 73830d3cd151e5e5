/- Whose values follow from an audit, and how one does, or the errors, are the same by the program and by the reference; table and questions stay: returns true, whatever lies in memory, and each argument reads afterwards as it read before. Conditions: none but those of the statement. -/
import Derived.Test.YtbkekdbabkncfaaGreatQC
import Derived.Test.YtbkekdbabkncfaaGreatUSOpen
import Derived.Test.YtbkekdbabkncfaaGreatRows

namespace Go.Proofs.YtbkekdbabkncfaaGreat
open Go.ChangeShapes Go.WideShapes Go.ChangeAt Go.RowKit Go.Deep Go.Maps

theorem Tryz.own : ownKnob Tryz.prog.godebug = none := by kernel_rfl
theorem Tryz.laidOut : laidOutB Tryz.prog = true := by kernel_rfl
set_option maxRecDepth 100000 in
theorem sumDeduces_lifted (os : Os) (started : os.Started) (H : Type) (enc : TypeId × Value → H) :
    ReturnsInHanded {} Tryz.checked os 4 .any (Rows.sumDeducesSpec.pre6 enc Tryz.prog Tryz.f4 Rows.sumDeducesRow.domain false) (Rows.sumDeducesSpec.post enc Tryz.prog Tryz.f4 false true false false) := by
  refine returnsInHanded_of_change (C := Tryz.checked) Tryz.own started (by kernel_rfl) Tryz.func4
    (ChangeSpec.witness6 (enc := enc) (C := Tryz.checked) false ⟨#[], #[.int .i64 0, .slice none 0 0, .slice none 0 0, .int .i64 0], []⟩ 8 (by kernel_rfl) (by kernel_rfl) (by kernel_rfl) (by kernel_rfl)) ?_
  intro W base args ds gs before hval0 hW _ _
  have hval : ∀ (j : Nat) t v, Tryz.f4.params[j]? = some t → args[j]? = some v → Value.okWide Tryz.prog W .any base t v := hval0
  have hW' := hW
  obtain ⟨p, q, hA0, hV, rfl, _, _⟩ := hW
  have hA : DataW.TrodAll enc Tryz.prog W 0 (fun _ => true) true Tryz.f4.params.toList args.toList ds p := hA0
  rw [Tryz.params4] at hA hval
  obtain ⟨v0, v1, v2, v3, d0, d1, d2, d3, p0, p1, p2, p3, rfl, rfl, rfl, h0, h1, h2, h3⟩ := trodAll_four hA
  obtain ⟨rfl, rfl⟩ := trodVars_none hV
  have k0 := h0
  have k1 := h1
  have k2 := h2
  have k3 := h3
  obtain ⟨n0, rfl⟩ := okWide_int Tryz.underlying3 (hval 0 3 v0 rfl rfl)
  obtain ⟨a1, n1, m1, rfl⟩ := okWide_slice Tryz.underlying30 (hval 1 30 v1 rfl rfl)
  obtain ⟨a2, n2, m2, rfl⟩ := okWide_slice Tryz.underlying35 (hval 2 35 v2 rfl rfl)
  obtain ⟨n3, rfl⟩ := okWide_int Tryz.underlying3 (hval 3 3 v3 rfl rfl)
  obtain ⟨f1, hf1⟩ := h1
  obtain ⟨f2, hf2⟩ := h2
  obtain ⟨f3, hf3⟩ := h3
  obtain ⟨X1, xc1, x1, hs1, hx1, hb1, hl1⟩ := subs_of_trod (show DataW.trod enc Tryz.prog W 0 (fun _ => true) true f1 30 [.slice a1 n1 m1] = some (d1, p1) from hf1)
  obtain ⟨rfl, rfl, rfl⟩ : a1 = X1 ∧ n1 = x1.length ∧ m1 = xc1 := by simpa using hs1
  obtain ⟨X2, xc2, x2, hs2, hx2, hb2, hl2⟩ := ques_of_trod (show DataW.trod enc Tryz.prog W 0 (fun _ => true) true f2 35 [.slice a2 n2 m2] = some (d2, p2) from hf2)
  obtain ⟨rfl, rfl, rfl⟩ : a2 = X2 ∧ n2 = x2.length ∧ m2 = xc2 := by simpa using hs2
  obtain ⟨y3, e3, _, wf3⟩ := DataW.trod_int Tryz.underlying3 (show DataW.trod enc Tryz.prog W 0 (fun _ => true) true f3 3 [.int .i64 n3] = some (d3, p3) from hf3)
  simp only [List.cons.injEq, Value.int.injEq, true_and, and_true] at e3
  subst e3
  have hn3 : -9223372036854775808 ≤ n3 ∧ n3 ≤ 9223372036854775807 := by
    simp [Lit.wf] at wf3
    have e0 : IntKind.i64.min = -9223372036854775808 := by decide
    have e1 : IntKind.i64.max = 9223372036854775807 := by decide
    omega
  clear hA0 hval0 hf1 hf2 hf3
  simp only [List.append_nil] at hW'
  have hlt : ∀ y ∈ p0 ++ p1 ++ p2 ++ p3, y.block < W.heap.size := fun y hy => by simpa using hW'.lt y hy
  refine (sumDeduces_any n0 x1 a1 m1 x2 a2 m2 n3 W ⟨hx1, fun z hz => (hb1 z hz).1⟩ (fun z hz => (hb1 z hz).2) ⟨hx2, fun z hz => (hb2 z hz).1⟩ (fun z hz => (hb2 z hz).2) hn3).mono fun e W' ⟨he, hb⟩ => ?_
  subst he
  refine ⟨_, rfl, _, _, _, [], p0 ++ p1 ++ p2 ++ p3, [], hW', ?_, ?_, rfl, hb.frame _, fun h => by cases h⟩
  · exact trodAll_mk1 (shut_bool Tryz.underlying4 true)
  · have ht := trodAll_mk4 (Below.trod Tryz.laidOut (by kernel_rfl) (of_decide_eq_true (by kernel_rfl)) k0 hb fun y hy => hlt y (by simp [hy])) (Below.trod Tryz.laidOut (by kernel_rfl) (of_decide_eq_true (by kernel_rfl)) k1 hb fun y hy => hlt y (by simp [hy])) (Below.trod Tryz.laidOut (by kernel_rfl) (of_decide_eq_true (by kernel_rfl)) k2 hb fun y hy => hlt y (by simp [hy])) (Below.trod Tryz.laidOut (by kernel_rfl) (of_decide_eq_true (by kernel_rfl)) k3 hb fun y hy => hlt y (by simp [hy]))
    rw [← List.append_assoc, ← List.append_assoc] at ht
    exact ht

theorem sumDeduces_holds : Rows.SumDeducesSaid :=
  OpenClaim.holds_of_wide 4 Tryz.f4 rfl rfl rfl rfl rfl rfl rfl ⟨rfl, rfl, rfl, rfl, rfl⟩ rfl rfl rfl rfl rfl (by kernel_rfl) Tryz.func4 (by kernel_rfl)
    (of_decide_eq_true (by kernel_rfl)) (by unfold Func.isWrapper; first | (rw [if_pos (by decide +kernel)]; kernel_rfl) | (rw [if_neg (by decide +kernel)]; exact ⟨rfl, rfl⟩))
    (fun os started H enc _ => sumDeduces_lifted os started H enc)

#print axioms sumDeduces_holds
end Go.Proofs.YtbkekdbabkncfaaGreat
