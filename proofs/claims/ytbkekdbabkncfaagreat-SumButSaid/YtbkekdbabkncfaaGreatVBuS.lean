/- SumBut: for any values, and whose: of the sums of all, of those before and of those after somebody, the value of this one follows, by 1, -1 and -1; without the first one it does not; of one question nobody's but that of one who is asked for alone. Conditions: none but those of the statement. -/
import Derived.Test.YtbkekdbabkncfaaGreatVBuL
import Derived.Test.YtbkekdbabkncfaaGreatUSOpen
import Derived.Test.YtbkekdbabkncfaaGreatRows

namespace Go.Proofs.YtbkekdbabkncfaaGreat
open Go.ChangeShapes Go.WideShapes Go.ChangeAt Go.RowKit Go.Deep Go.Maps

theorem Tryz.own : ownKnob Tryz.prog.godebug = none := by kernel_rfl
theorem Tryz.laidOut : laidOutB Tryz.prog = true := by kernel_rfl
set_option maxRecDepth 100000 in
theorem u16_of_trod {H : Type} {enc : TypeId × Value → H} {w : World} {base : Nat} {spare : Nat → Bool} {held : Bool} (m : Nat) (cs : List Value) (x : DataW H × List MemPlace) (h : DataW.trod enc Tryz.prog w base spare held m 66 cs = some x) (hl : cs.length = 1) : ∃ z : Int, cs = u16C z ∧ (0 ≤ z ∧ z ≤ 65535) := by
  match cs, hl with
  | [v], _ =>
    obtain ⟨p, e, _, wf⟩ := DataW.trod_int Tryz.underlying66 h
    refine ⟨p, e, ?_⟩
    simp [Lit.wf] at wf
    have e0 : IntKind.u16.min = 0 := by decide
    have e1 : IntKind.u16.max = 65535 := by decide
    omega
set_option maxRecDepth 100000 in
theorem sumBut_lifted (os : Os) (started : os.Started) (H : Type) (enc : TypeId × Value → H) :
    ReturnsInHanded {} Tryz.checked os 11 .any (Rows.sumButSpec.pre6 enc Tryz.prog Tryz.f11 Rows.sumButRow.domain false) (Rows.sumButSpec.post enc Tryz.prog Tryz.f11 false true false false) := by
  refine returnsInHanded_of_change (C := Tryz.checked) Tryz.own started (by kernel_rfl) Tryz.func11
    (ChangeSpec.witness6 (enc := enc) (C := Tryz.checked) false ⟨#[], #[.slice none 0 0, .int .u8 0, .int .u16 0], []⟩ 8 (by kernel_rfl) (by kernel_rfl) (by kernel_rfl) (by kernel_rfl)) ?_
  intro W base args ds gs before hval0 hW _ _
  have hval : ∀ (j : Nat) t v, Tryz.f11.params[j]? = some t → args[j]? = some v → Value.okWide Tryz.prog W .any base t v := hval0
  have hW' := hW
  obtain ⟨p, q, hA0, hV, rfl, _, _⟩ := hW
  have hA : DataW.TrodAll enc Tryz.prog W 0 (fun _ => true) true Tryz.f11.params.toList args.toList ds p := hA0
  rw [Tryz.params11] at hA hval
  obtain ⟨v0, v1, v2, d0, d1, d2, p0, p1, p2, rfl, rfl, rfl, h0, h1, h2⟩ := trodAll_three hA
  obtain ⟨rfl, rfl⟩ := trodVars_none hV
  have k0 := h0
  have k1 := h1
  have k2 := h2
  obtain ⟨a0, n0, m0, rfl⟩ := okWide_slice Tryz.underlying65 (hval 0 65 v0 rfl rfl)
  obtain ⟨n1, rfl⟩ := okWide_int Tryz.underlying5 (hval 1 5 v1 rfl rfl)
  obtain ⟨n2, rfl⟩ := okWide_int Tryz.underlying66 (hval 2 66 v2 rfl rfl)
  obtain ⟨f0, hf0⟩ := h0
  obtain ⟨f1, hf1⟩ := h1
  obtain ⟨f2, hf2⟩ := h2
  obtain ⟨X0, xc0, x0, hs0, hx0, hb0, hl0⟩ := flat_of_trod (n := 1) (f := u16C) (P := fun z : Int => 0 ≤ z ∧ z ≤ 65535) (by decide) (fun _ => rfl) Tryz.underlying65 (by kernel_rfl) (fun m cs x h hl => u16_of_trod m cs x h hl) (show DataW.trod enc Tryz.prog W 0 (fun _ => true) true f0 65 [.slice a0 n0 m0] = some (d0, p0) from hf0)
  obtain ⟨rfl, rfl, rfl⟩ : a0 = X0 ∧ n0 = x0.length ∧ m0 = xc0 := by simpa using hs0
  obtain ⟨y1, e1, _, wf1⟩ := DataW.trod_int Tryz.underlying5 (show DataW.trod enc Tryz.prog W 0 (fun _ => true) true f1 5 [.int .u8 n1] = some (d1, p1) from hf1)
  simp only [List.cons.injEq, Value.int.injEq, true_and, and_true] at e1
  subst e1
  have hn1 : 0 ≤ n1 ∧ n1 ≤ 255 := by
    simp [Lit.wf] at wf1
    have e0 : IntKind.u8.min = 0 := by decide
    have e1 : IntKind.u8.max = 255 := by decide
    omega
  obtain ⟨y2, e2, hn2⟩ := u16_of_trod _ _ _ (show DataW.trod enc Tryz.prog W 0 (fun _ => true) true f2 66 [.int .u16 n2] = some (d2, p2) from hf2) rfl
  obtain rfl : n2 = y2 := by simpa [u16C] using e2
  clear hA0 hval0 hf0 hf1 hf2
  simp only [List.append_nil] at hW'
  have hlt : ∀ y ∈ p0 ++ p1 ++ p2, y.block < W.heap.size := fun y hy => by simpa using hW'.lt y hy
  refine (sumBut_any x0 a0 m0 n1 n2 W hx0 hb0 hn1 hn2).mono fun e W' ⟨he, hb⟩ => ?_
  subst he
  refine ⟨_, rfl, _, _, _, [], p0 ++ p1 ++ p2, [], hW', ?_, ?_, rfl, hb.frame _, fun h => by cases h⟩
  · exact trodAll_mk1 (shut_bool Tryz.underlying4 true)
  · have ht := trodAll_mk3 (Below.trod Tryz.laidOut (by kernel_rfl) (of_decide_eq_true (by kernel_rfl)) k0 hb fun y hy => hlt y (by simp [hy])) (Below.trod Tryz.laidOut (by kernel_rfl) (of_decide_eq_true (by kernel_rfl)) k1 hb fun y hy => hlt y (by simp [hy])) (Below.trod Tryz.laidOut (by kernel_rfl) (of_decide_eq_true (by kernel_rfl)) k2 hb fun y hy => hlt y (by simp [hy]))
    rw [← List.append_assoc] at ht
    exact ht

theorem sumBut_holds : Rows.SumButSaid :=
  OpenClaim.holds_of_wide 11 Tryz.f11 rfl rfl rfl rfl rfl rfl rfl ⟨rfl, rfl, rfl, rfl, rfl⟩ rfl rfl rfl rfl rfl (by kernel_rfl) Tryz.func11 (by kernel_rfl)
    (of_decide_eq_true (by kernel_rfl)) (by unfold Func.isWrapper; first | (rw [if_pos (by decide +kernel)]; kernel_rfl) | (rw [if_neg (by decide +kernel)]; exact ⟨rfl, rfl⟩))
    (fun os started H enc _ => sumBut_lifted os started H enc)

#print axioms sumBut_holds
end Go.Proofs.YtbkekdbabkncfaaGreat
