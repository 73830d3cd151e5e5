/- ScoreInside: for every model that is not great, all spans, and numbers that say what is so: the law returns true, and the arguments stay. Conditions: none but those of the statement. -/
import Derived.Test.YtkimojiakabbcaaGreatWIL
import Derived.Test.YtkimojiakabbcaaGreatWBS
import Derived.Test.YtkimojiakabbcaaGreatWP2
import Derived.Test.YtkimojiakabbcaaGreatRAlv
import Derived.Test.YtkimojiakabbcaaGreatRows

namespace Go.Proofs.YtkimojiakabbcaaGreat
open Go.ChangeShapes Go.WideShapes Go.ChangeAt Go.RowKit Go.Deep Go.Maps

theorem Tryz.own : ownKnob Tryz.prog.godebug = none := by kernel_rfl
theorem Tryz.laidOut : laidOutB Tryz.prog = true := by kernel_rfl
theorem insF {traits need : Int} {cl : List CrdD} {tl : List TreD} {x : List Spn} (hM : mdlB ⟨traits, cl.map CrdD.v, tl.map TreD.v, need⟩ = true) (hx : spnsB traits x = true) : InsF ⟨traits, cl.map CrdD.v, tl.map TreD.v, need⟩ x := fun ys zs h1 h2 h3 => by
  have hl := spnsB_len hx
  have ht := (mdlB_parts hM).1
  dsimp only at ht
  have hz : spnsB traits zs = true := spnsB_iff.2 ⟨by omega, fun k hk => by
    have := h3 k (by omega)
    have := spnsB_at hx (k := k) (by omega)
    omega⟩
  have hlj : (justS ys).length = ys.length := by unfold justS; rw [List.length_map]
  have hj : spnsB traits (justS ys) = true := spnsB_iff.2 ⟨by omega, fun k hk => by
    have := h3 k (by omega)
    have := spnsB_at hx (k := k) (by omega)
    rw [justS_getD (by omega)]
    dsimp only
    omega⟩
  have hy : valsB traits ys = true := valsB_iff.2 ⟨by omega, fun k hk => by
    have := h3 k (by omega)
    have := spnsB_at hx (k := k) (by omega)
    omega⟩
  have hf : forE ⟨traits, cl.map CrdD.v, tl.map TreD.v, need⟩ ys = 0 := by unfold forE; rw [if_pos hM]; exact if_pos hy
  have hn : scN ⟨traits, cl.map CrdD.v, tl.map TreD.v, need⟩ ys = scoreM ⟨traits, cl.map CrdD.v, tl.map TreD.v, need⟩ ys := by unfold scN; rw [if_pos hf]
  obtain ⟨p1, p2, p3, p4, p5⟩ := betV_inside (m := ⟨traits, cl.map CrdD.v, tl.map TreD.v, need⟩) (y := ys) hM hx hz (fun v hv => scoreM_boundL hM (by rw [hv]; exact hl) (by omega)) (fun v hv => by
    refine ⟨by rw [hv.1]; exact h2, fun k hk => ?_⟩
    have := h3 k hk
    have := hv.2 k (by omega)
    omega) ⟨by omega, fun k hk => by have := h3 k (by omega); omega⟩ hj
  rw [hn]
  exact ⟨betE_ok hM hx, betE_ok hM hz, betE_ok hM hj, hf, p1, p2, p3, p4, p5⟩
set_option maxRecDepth 100000 in
theorem scoreInside_lifted (os : Os) (started : os.Started) (H : Type) (enc : TypeId × Value → H) :
    ReturnsInHanded {} Tryz.checked os 8 .any (Rows.scoreInsideSpec.pre6 enc Tryz.prog Tryz.f8 Rows.scoreInsideRow.domain false) (Rows.scoreInsideSpec.post enc Tryz.prog Tryz.f8 false true false false) := by
  refine returnsInHanded_of_change (C := Tryz.checked) Tryz.own started (by kernel_rfl) Tryz.func8
    (ChangeSpec.witness6 (enc := enc) (C := Tryz.checked) false ⟨#[], #[.agg #[.int .i64 0, .slice none 0 0, .slice none 0 0, .int .i64 0], .slice none 0 0, .slice none 0 0], []⟩ 8 (by kernel_rfl) (by kernel_rfl) (by kernel_rfl) (by kernel_rfl)) ?_
  intro W base args ds gs before hval0 hW _ _
  have hval : ∀ (j : Nat) t v, Tryz.f8.params[j]? = some t → args[j]? = some v → Value.okWide Tryz.prog W .any base t v := hval0
  have hW' := hW
  obtain ⟨p, q, hA0, hV, rfl, _, _⟩ := hW
  have hA : DataW.TrodAll enc Tryz.prog W 0 (fun _ => true) true Tryz.f8.params.toList args.toList ds p := hA0
  rw [Tryz.params8] at hA hval
  obtain ⟨v0, v1, v2, d0, d1, d2, p0, p1, p2, rfl, rfl, rfl, h0, h1, h2⟩ := trodAll_three hA
  obtain ⟨rfl, rfl⟩ := trodVars_none hV
  have k0 := h0
  have k1 := h1
  have k2 := h2
  obtain ⟨cs0, rfl, _⟩ := okWide_struct Tryz.underlying29 (hval 0 29 v0 rfl rfl)
  obtain ⟨a1, n1, m1, rfl⟩ := okWide_slice Tryz.underlying47 (hval 1 47 v1 rfl rfl)
  obtain ⟨a2, n2, m2, rfl⟩ := okWide_slice Tryz.underlying61 (hval 2 61 v2 rfl rfl)
  obtain ⟨f0, hf0⟩ := h0
  obtain ⟨f1, hf1⟩ := h1
  obtain ⟨f2, hf2⟩ := h2
  obtain ⟨z, hu, hm⟩ := mdl_of_trod _ _ _ (show DataW.trod enc Tryz.prog W 0 (fun _ => true) true f0 29 cs0.toList = some (d0, p0) from hf0)
  obtain ⟨X1, xc1, x1, hs1, hx1, hb1, hl1⟩ := spns_of_trod (show DataW.trod enc Tryz.prog W 0 (fun _ => true) true f1 47 [.slice a1 n1 m1] = some (d1, p1) from hf1)
  obtain ⟨rfl, rfl, rfl⟩ : a1 = X1 ∧ n1 = x1.length ∧ m1 = xc1 := by simpa using hs1
  obtain ⟨X2, xc2, x2, hs2, hx2, hb2, hl2⟩ := u32s_of_trod (show DataW.trod enc Tryz.prog W 0 (fun _ => true) true f2 61 [.slice a2 n2 m2] = some (d2, p2) from hf2)
  obtain ⟨rfl, rfl, rfl⟩ : a2 = X2 ∧ n2 = x2.length ∧ m2 = xc2 := by simpa using hs2
  obtain ⟨traits, cl, C, c, tl, T, t, need⟩ := z
  obtain rfl : cs0 = #[.int .i64 traits, .slice C cl.length c, .slice T tl.length t, .int .i64 need] := by rw [← Array.toList_inj, hu]
  clear hA0 hval0 hf0 hf1 hf2
  simp only [List.append_nil] at hW'
  have hlt : ∀ y ∈ p0 ++ p1 ++ p2, y.block < W.heap.size := fun y hy => by simpa using hW'.lt y hy
  refine (scoreInside_any traits need cl tl C T c t x1 a1 m1 x2 a2 m2 W hm hx1 hl1 hx2 hl2 hb2 (fun W' => alive_any W') (fun lo hi W' => spanL_any lo hi W') (fun W' X1 x1 sp h' hls hx' hl' => betweenP_all traits need cl tl C T c t sp X1 x1 W' h' hls hx' hl') (fun W' Y1 y1 ys h' hls hy hl' => scoreP_all traits need cl tl C T c t ys Y1 y1 W' h' hls hy hl') (fun hM hs => insF hM hs)).mono fun e W' ⟨he, hb⟩ => ?_
  subst he
  refine ⟨_, rfl, _, _, _, [], p0 ++ p1 ++ p2, [], hW', ?_, ?_, rfl, hb.frame _, fun h => by cases h⟩
  · exact trodAll_mk1 (shut_bool Tryz.underlying4 true)
  · have ht := trodAll_mk3 (Below.trod Tryz.laidOut (by kernel_rfl) (of_decide_eq_true (by kernel_rfl)) k0 hb fun y hy => hlt y (by simp [hy])) (Below.trod Tryz.laidOut (by kernel_rfl) (of_decide_eq_true (by kernel_rfl)) k1 hb fun y hy => hlt y (by simp [hy])) (Below.trod Tryz.laidOut (by kernel_rfl) (of_decide_eq_true (by kernel_rfl)) k2 hb fun y hy => hlt y (by simp [hy]))
    rw [← List.append_assoc] at ht
    exact ht

theorem scoreInside_holds : Rows.ScoreInsideSaid :=
  OpenClaim.holds_of_wide 8 Tryz.f8 rfl rfl rfl rfl rfl rfl rfl ⟨rfl, rfl, rfl, rfl, rfl⟩ rfl rfl rfl rfl rfl (by kernel_rfl) Tryz.func8 (by kernel_rfl)
    (of_decide_eq_true (by kernel_rfl)) (by unfold Func.isWrapper; first | (rw [if_pos (by decide +kernel)]; kernel_rfl) | (rw [if_neg (by decide +kernel)]; exact ⟨rfl, rfl⟩))
    (fun os started H enc _ => scoreInside_lifted os started H enc)

#print axioms scoreInside_holds
end Go.Proofs.YtkimojiakabbcaaGreat
