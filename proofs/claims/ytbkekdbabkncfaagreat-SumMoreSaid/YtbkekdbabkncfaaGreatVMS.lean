/- A question more makes no fewer values follow; questions in any order, or twice, lead to the same ones: returns true, whatever lies in memory, and each argument reads afterwards as it read before. Conditions: none but those of the statement. -/
import Derived.Test.YtbkekdbabkncfaaGreatVMo
import Derived.Test.YtbkekdbabkncfaaGreatUSOpen
import Derived.Test.YtbkekdbabkncfaaGreatRows
import Derived.SizedLaws

namespace Go.Proofs.YtbkekdbabkncfaaGreat
open Go.ChangeShapes Go.WideShapes Go.ChangeAt Go.RowKit Go.Deep Go.Maps

section
variable {H : Type} {enc : TypeId × Value → H} {P : Program} {w : World} {base : Nat} {spare : Nat → Bool} {held : Bool}
theorem trodAll_five {t t1 t2 t3 t4 : TypeId} {args : Array Value} {ds : List (DataW H)} {ps : List MemPlace} (h : DataW.TrodAll enc P w base spare held [t, t1, t2, t3, t4] args.toList ds ps) :
    ∃ v v1 v2 v3 v4 d d1 d2 d3 d4 p p1 p2 p3 p4, args = #[v, v1, v2, v3, v4] ∧ ds = [d, d1, d2, d3, d4] ∧ ps = p ++ p1 ++ p2 ++ p3 ++ p4 ∧ DataW.Trod enc P w base spare held t v d p ∧ DataW.Trod enc P w base spare held t1 v1 d1 p1 ∧ DataW.Trod enc P w base spare held t2 v2 d2 p2 ∧ DataW.Trod enc P w base spare held t3 v3 d3 p3 ∧ DataW.Trod enc P w base spare held t4 v4 d4 p4 := by
  obtain ⟨v, vs, d, ds1, p, q, hargs, rfl, rfl, hd, hrest⟩ := trodAll_cons h
  obtain ⟨v1, vs1, d1, ds2, p1, q1, rfl, rfl, rfl, hd1, hrest1⟩ := trodAll_cons hrest
  obtain ⟨v2, vs2, d2, ds3, p2, q2, rfl, rfl, rfl, hd2, hrest2⟩ := trodAll_cons hrest1
  obtain ⟨v3, vs3, d3, ds4, p3, q3, rfl, rfl, rfl, hd3, hrest3⟩ := trodAll_cons hrest2
  obtain ⟨v4, vs4, d4, ds5, p4, q4, rfl, rfl, rfl, hd4, hrest4⟩ := trodAll_cons hrest3
  obtain ⟨rfl, rfl, rfl⟩ := trodAll_nil hrest4
  exact ⟨v, v1, v2, v3, v4, d, d1, d2, d3, d4, p, p1, p2, p3, p4, by cases args; simp_all, rfl, by simp, hd, hd1, hd2, hd3, hd4⟩
theorem trodAll_mk5 {t t1 t2 t3 t4 : TypeId} {v v1 v2 v3 v4 : Value} {d d1 d2 d3 d4 : DataW H} {p p1 p2 p3 p4 : List MemPlace} (h : DataW.Trod enc P w base spare held t v d p) (h1 : DataW.Trod enc P w base spare held t1 v1 d1 p1)
    (h2 : DataW.Trod enc P w base spare held t2 v2 d2 p2) (h3 : DataW.Trod enc P w base spare held t3 v3 d3 p3) (h4 : DataW.Trod enc P w base spare held t4 v4 d4 p4) : DataW.TrodAll enc P w base spare held [t, t1, t2, t3, t4] [v, v1, v2, v3, v4] [d, d1, d2, d3, d4] (p ++ (p1 ++ (p2 ++ (p3 ++ p4)))) := ⟨p, p1 ++ (p2 ++ (p3 ++ p4)), h, trodAll_mk4 h1 h2 h3 h4, rfl⟩
end


theorem Tryz.own : ownKnob Tryz.prog.godebug = none := by kernel_rfl
theorem Tryz.laidOut : laidOutB Tryz.prog = true := by kernel_rfl
theorem bytesQ : Tryz.prog.bytesOf 25 = 48 := by kernel_rfl
set_option maxRecDepth 100000 in
theorem sumMore_lifted (os : Os) (started : os.Started) (H : Type) (enc : TypeId × Value → H) :
    ReturnsInHanded {} Tryz.checked os 10 .any (Rows.sumMoreSpec.pre6 enc Tryz.prog Tryz.f10 Rows.sumMoreRow.domain false) (Rows.sumMoreSpec.post enc Tryz.prog Tryz.f10 false true false false) := by
  refine returnsInHanded_of_change_sized (C := Tryz.checked) Tryz.own started (by kernel_rfl) Tryz.func10
    (ChangeSpec.witness6 (enc := enc) (C := Tryz.checked) false ⟨#[], #[.int .i64 0, .slice none 0 0, .slice none 0 0, .agg #[.slice none 0 0, .int .i64 0, .int .i64 0, .int .i64 0], .int .u8 0], []⟩ 8 (by kernel_rfl) (by kernel_rfl) (by kernel_rfl) (by kernel_rfl)) ?_
  intro W base args ds gs before hval0 hW _ hsz0 _
  have hval : ∀ (j : Nat) t v, Tryz.f10.params[j]? = some t → args[j]? = some v → Value.okWide Tryz.prog W .any base t v := hval0
  have hsz : (DataW.weightsEach Tryz.prog (Tryz.f10.params.toList ++ Rows.sumMoreSpec.plain.varTypes Tryz.prog) (ds ++ gs)).all (· ≤ reachBytes) = true := hsz0
  have hW' := hW
  obtain ⟨p, q, hA0, hV, rfl, _, _⟩ := hW
  have hA : DataW.TrodAll enc Tryz.prog W 0 (fun _ => true) true Tryz.f10.params.toList args.toList ds p := hA0
  rw [Tryz.params10] at hA hval hsz
  obtain ⟨v0, v1, v2, v3, v4, d0, d1, d2, d3, d4, p0, p1, p2, p3, p4, rfl, rfl, rfl, h0, h1, h2, h3, h4⟩ := trodAll_five hA
  obtain ⟨rfl, rfl⟩ := trodVars_none hV
  have k0 := h0
  have k1 := h1
  have k2 := h2
  have k3 := h3
  have k4 := h4
  obtain ⟨n0, rfl⟩ := okWide_int Tryz.underlying3 (hval 0 3 v0 rfl rfl)
  obtain ⟨a1, n1, m1, rfl⟩ := okWide_slice Tryz.underlying30 (hval 1 30 v1 rfl rfl)
  obtain ⟨a2, n2, m2, rfl⟩ := okWide_slice Tryz.underlying35 (hval 2 35 v2 rfl rfl)
  obtain ⟨cs3, rfl, _⟩ := okWide_struct Tryz.underlying25 (hval 3 25 v3 rfl rfl)
  obtain ⟨n4, rfl⟩ := okWide_int Tryz.underlying5 (hval 4 5 v4 rfl rfl)
  obtain ⟨f1, hf1⟩ := h1
  obtain ⟨f2, hf2⟩ := h2
  obtain ⟨f3, hf3⟩ := h3
  obtain ⟨f4, hf4⟩ := h4
  obtain ⟨X1, xc1, x1, hs1, hx1, hb1, hl1⟩ := subs_of_trod (show DataW.trod enc Tryz.prog W 0 (fun _ => true) true f1 30 [.slice a1 n1 m1] = some (d1, p1) from hf1)
  obtain ⟨rfl, rfl, rfl⟩ : a1 = X1 ∧ n1 = x1.length ∧ m1 = xc1 := by simpa using hs1
  obtain ⟨X2, xc2, x2, hs2, hx2, hb2, hl2⟩ := ques_of_trod (show DataW.trod enc Tryz.prog W 0 (fun _ => true) true f2 35 [.slice a2 n2 m2] = some (d2, p2) from hf2)
  obtain ⟨rfl, rfl, rfl⟩ : a2 = X2 ∧ n2 = x2.length ∧ m2 = xc2 := by simpa using hs2
  have hcap : x2.length ≤ m2 ∧ x2.length * 48 ≤ 140737488351232 := by
    rcases open_slice Tryz.underlying35 (show DataW.trod enc Tryz.prog W 0 (fun _ => true) true f2 35 [.slice a2 x2.length m2] = some (d2, p2) from hf2) with ⟨hc, _⟩ | ⟨_, len, cap, _, _, D, Pl, hc, _, hl9, _, _, hx, _⟩
    · simp only [List.cons.injEq, and_true, Value.slice.injEq] at hc
      omega
    · simp only [List.cons.injEq, and_true, Value.slice.injEq] at hc
      have hd : d2 = _ := congrArg Prod.fst hx
      dsimp only at hd
      subst hd
      have h9 := sized_slice hsz (j := 2) (t := 35) (e := 25) rfl rfl Tryz.underlying35
      rw [bytesQ] at h9
      simp only [List.length_map, List.length_range, reachBytes] at h9
      omega
  obtain ⟨z3, hu3, hq3, hw3⟩ := que_of_trod _ _ _ (show DataW.trod enc Tryz.prog W 0 (fun _ => true) true f3 25 cs3.toList = some (d3, p3) from hf3)
  obtain ⟨⟨wh3, col3, clip3, step3⟩, W3, wc3⟩ := z3
  obtain rfl : cs3 = #[.slice W3 wh3.length wc3, .int .i64 col3, .int .i64 clip3, .int .i64 step3] := by rw [← Array.toList_inj, hu3]; rfl
  obtain ⟨y4, e4, _, wf4⟩ := DataW.trod_int Tryz.underlying5 (show DataW.trod enc Tryz.prog W 0 (fun _ => true) true f4 5 [.int .u8 n4] = some (d4, p4) from hf4)
  simp only [List.cons.injEq, Value.int.injEq, true_and, and_true] at e4
  subst e4
  have hn4 : 0 ≤ n4 ∧ n4 ≤ 255 := by
    simp [Lit.wf] at wf4
    have e0 : IntKind.u8.min = 0 := by decide
    have e1 : IntKind.u8.max = 255 := by decide
    omega
  clear hA0 hval0 hf1 hf2 hf3 hf4 hsz hsz0
  simp only [List.append_nil] at hW'
  have hlt : ∀ y ∈ p0 ++ p1 ++ p2 ++ p3 ++ p4, y.block < W.heap.size := fun y hy => by simpa using hW'.lt y hy
  refine (sumMore_any n0 x1 a1 m1 x2 a2 m2 wh3 col3 clip3 step3 W3 wc3 n4 W ⟨hx1, fun z hz => (hb1 z hz).1⟩ (fun z hz => (hb1 z hz).2) ⟨hx2, fun z hz => (hb2 z hz).1⟩ hcap.1 hcap.2 (fun z hz => (hb2 z hz).2) hq3 hw3 hn4).mono fun e W' ⟨he, hb⟩ => ?_
  subst he
  refine ⟨_, rfl, _, _, _, [], p0 ++ p1 ++ p2 ++ p3 ++ p4, [], hW', ?_, ?_, rfl, hb.frame _, fun h => by cases h⟩
  · exact trodAll_mk1 (shut_bool Tryz.underlying4 true)
  · have ht := trodAll_mk5 (Below.trod Tryz.laidOut (by kernel_rfl) (of_decide_eq_true (by kernel_rfl)) k0 hb fun y hy => hlt y (by simp [hy])) (Below.trod Tryz.laidOut (by kernel_rfl) (of_decide_eq_true (by kernel_rfl)) k1 hb fun y hy => hlt y (by simp [hy])) (Below.trod Tryz.laidOut (by kernel_rfl) (of_decide_eq_true (by kernel_rfl)) k2 hb fun y hy => hlt y (by simp [hy])) (Below.trod Tryz.laidOut (by kernel_rfl) (of_decide_eq_true (by kernel_rfl)) k3 hb fun y hy => hlt y (by simp [hy])) (Below.trod Tryz.laidOut (by kernel_rfl) (of_decide_eq_true (by kernel_rfl)) k4 hb fun y hy => hlt y (by simp [hy]))
    rw [← List.append_assoc, ← List.append_assoc, ← List.append_assoc] at ht
    exact ht

theorem sumMore_holds : Rows.SumMoreSaid :=
  OpenClaim.holds_of_wide 10 Tryz.f10 rfl rfl rfl rfl rfl rfl rfl ⟨rfl, rfl, rfl, rfl, rfl⟩ rfl rfl rfl rfl rfl (by kernel_rfl) Tryz.func10 (by kernel_rfl)
    (of_decide_eq_true (by kernel_rfl)) (by unfold Func.isWrapper; first | (rw [if_pos (by decide +kernel)]; kernel_rfl) | (rw [if_neg (by decide +kernel)]; exact ⟨rfl, rfl⟩))
    (fun os started H enc _ => sumMore_lifted os started H enc)

#print axioms sumMore_holds
end Go.Proofs.YtbkekdbabkncfaaGreat
