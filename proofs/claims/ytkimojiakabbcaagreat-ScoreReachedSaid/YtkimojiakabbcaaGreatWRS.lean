/- ScoreReached: for every model that is not great, all spans, and where one is parted: the law returns true, and the arguments stay. Conditions: none but those of the statement. -/
import Derived.Test.YtkimojiakabbcaaGreatWR
import Derived.Test.YtkimojiakabbcaaGreatWB
import Derived.Test.YtkimojiakabbcaaGreatWP2
import Derived.Test.YtkimojiakabbcaaGreatRAlv
import Derived.Test.YtkimojiakabbcaaGreatRows

namespace Go.Proofs.YtkimojiakabbcaaGreat
open Go.ChangeShapes Go.WideShapes Go.ChangeAt Go.RowKit Go.Deep Go.Maps

theorem Tryz.own : ownKnob Tryz.prog.godebug = none := by kernel_rfl
theorem Tryz.laidOut : laidOutB Tryz.prog = true := by kernel_rfl
theorem partF {traits need : Int} {cl : List CrdD} {tl : List TreD} {x : List Spn} (hM : mdlB ⟨traits, cl.map CrdD.v, tl.map TreD.v, need⟩ = true) (hx : spnsB traits x = true) : PartF ⟨traits, cl.map CrdD.v, tl.map TreD.v, need⟩ x := fun q cut hq h1 h2 => by
  have hl := spnsB_len hx
  have ht := (mdlB_parts hM).1
  dsimp only at ht
  obtain ⟨p1, p2⟩ := part_spns (m := ⟨traits, cl.map CrdD.v, tl.map TreD.v, need⟩) hx hq h1 h2
  obtain ⟨p3, p4⟩ := betV_part (m := ⟨traits, cl.map CrdD.v, tl.map TreD.v, need⟩) hM hx (fun v hv => scoreM_boundL hM (by rw [hv]; exact hl) (by omega)) hq h1 h2
  exact ⟨betE_ok hM p1, betE_ok hM p2, p3, p4⟩
set_option maxRecDepth 100000 in
theorem scoreReached_lifted (os : Os) (started : os.Started) (H : Type) (enc : TypeId × Value → H) :
    ReturnsInHanded {} Tryz.checked os 9 .any (Rows.scoreReachedSpec.pre6 enc Tryz.prog Tryz.f9 Rows.scoreReachedRow.domain false) (Rows.scoreReachedSpec.post enc Tryz.prog Tryz.f9 false true false false) := by
  refine returnsInHanded_of_change (C := Tryz.checked) Tryz.own started (by kernel_rfl) Tryz.func9
    (ChangeSpec.witness6 (enc := enc) (C := Tryz.checked) false ⟨#[], #[.agg #[.int .i64 0, .slice none 0 0, .slice none 0 0, .int .i64 0], .slice none 0 0, .int .u8 0, .int .u32 0], []⟩ 8 (by kernel_rfl) (by kernel_rfl) (by kernel_rfl) (by kernel_rfl)) ?_
  intro W base args ds gs before hval0 hW _ _
  have hval : ∀ (j : Nat) t v, Tryz.f9.params[j]? = some t → args[j]? = some v → Value.okWide Tryz.prog W .any base t v := hval0
  have hW' := hW
  obtain ⟨p, q, hA0, hV, rfl, _, _⟩ := hW
  have hA : DataW.TrodAll enc Tryz.prog W 0 (fun _ => true) true Tryz.f9.params.toList args.toList ds p := hA0
  rw [Tryz.params9] at hA hval
  obtain ⟨v0, v1, v2, v3, d0, d1, d2, d3, p0, p1, p2, p3, rfl, rfl, rfl, h0, h1, h2, h3⟩ := trodAll_four hA
  obtain ⟨rfl, rfl⟩ := trodVars_none hV
  have k0 := h0
  have k1 := h1
  have k2 := h2
  have k3 := h3
  obtain ⟨cs0, rfl, _⟩ := okWide_struct Tryz.underlying29 (hval 0 29 v0 rfl rfl)
  obtain ⟨a1, n1, m1, rfl⟩ := okWide_slice Tryz.underlying47 (hval 1 47 v1 rfl rfl)
  obtain ⟨n, rfl⟩ := okWide_int Tryz.underlying5 (hval 2 5 v2 rfl rfl)
  obtain ⟨i, rfl⟩ := okWide_int Tryz.underlying63 (hval 3 63 v3 rfl rfl)
  obtain ⟨f0, hf0⟩ := h0
  obtain ⟨f1, hf1⟩ := h1
  obtain ⟨f2, hf2⟩ := h2
  obtain ⟨f3, hf3⟩ := h3
  obtain ⟨z, hu, hm⟩ := mdl_of_trod _ _ _ (show DataW.trod enc Tryz.prog W 0 (fun _ => true) true f0 29 cs0.toList = some (d0, p0) from hf0)
  obtain ⟨X, xc, x, hl3, hx, _, hln⟩ := spns_of_trod (show DataW.trod enc Tryz.prog W 0 (fun _ => true) true f1 47 [.slice a1 n1 m1] = some (d1, p1) from hf1)
  obtain ⟨rfl, rfl, rfl⟩ : a1 = X ∧ n1 = x.length ∧ m1 = xc := by simpa using hl3
  obtain ⟨n', e2, hn⟩ := u8_of_trod _ _ _ (show DataW.trod enc Tryz.prog W 0 (fun _ => true) true f2 5 [.int .u8 n] = some (d2, p2) from hf2)
  obtain rfl : n = n' := by simpa using e2
  obtain ⟨i', e3, hi⟩ := u32_of_trod _ _ _ (show DataW.trod enc Tryz.prog W 0 (fun _ => true) true f3 63 [.int .u32 i] = some (d3, p3) from hf3) rfl
  obtain rfl : i = i' := by simpa [u32C] using e3
  obtain ⟨traits, cl, C, c, tl, T, t, need⟩ := z
  obtain rfl : cs0 = #[.int .i64 traits, .slice C cl.length c, .slice T tl.length t, .int .i64 need] := by rw [← Array.toList_inj, hu]
  clear hA0 hval0 hf0 hf1 hf2 hf3 e2 e3
  simp only [List.append_nil] at hW'
  have hlt : ∀ y ∈ p0 ++ p1 ++ p2 ++ p3, y.block < W.heap.size := fun y hy => by simpa using hW'.lt y hy
  refine (scoreReached_any traits need cl tl C T c t x a1 m1 n i W hm hx hln hn hi (fun W' => alive_any W') (fun lo hi W' => spanL_any lo hi W') (fun W' X1 x1 sp h' hls hx' hl' => betweenP_all traits need cl tl C T c t sp X1 x1 W' h' hls hx' hl') (fun hM hs => partF hM hs)).mono fun e W' ⟨he, hb⟩ => ?_
  subst he
  refine ⟨_, rfl, _, _, _, [], p0 ++ p1 ++ p2 ++ p3, [], hW', ?_, ?_, rfl, hb.frame _, fun h => by cases h⟩
  · exact trodAll_mk1 (shut_bool Tryz.underlying4 true)
  · have ht := trodAll_mk4 (Below.trod Tryz.laidOut (by kernel_rfl) (of_decide_eq_true (by kernel_rfl)) k0 hb fun z hz => hlt z (by simp [hz])) (Below.trod Tryz.laidOut (by kernel_rfl) (of_decide_eq_true (by kernel_rfl)) k1 hb fun z hz => hlt z (by simp [hz]))
      (Below.trod Tryz.laidOut (by kernel_rfl) (of_decide_eq_true (by kernel_rfl)) k2 hb fun z hz => hlt z (by simp [hz])) (Below.trod Tryz.laidOut (by kernel_rfl) (of_decide_eq_true (by kernel_rfl)) k3 hb fun z hz => hlt z (by simp [hz]))
    rw [← List.append_assoc, ← List.append_assoc] at ht
    exact ht

theorem scoreReached_holds : Rows.ScoreReachedSaid :=
  OpenClaim.holds_of_wide 9 Tryz.f9 rfl rfl rfl rfl rfl rfl rfl ⟨rfl, rfl, rfl, rfl, rfl⟩ rfl rfl rfl rfl rfl (by kernel_rfl) Tryz.func9 (by kernel_rfl)
    (of_decide_eq_true (by kernel_rfl)) (by unfold Func.isWrapper; first | (rw [if_pos (by decide +kernel)]; kernel_rfl) | (rw [if_neg (by decide +kernel)]; exact ⟨rfl, rfl⟩))
    (fun os started H enc _ => scoreReached_lifted os started H enc)

#print axioms scoreReached_holds
end Go.Proofs.YtkimojiakabbcaaGreat
