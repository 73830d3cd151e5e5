/- For every rules and two records the law on compare returns true, and each argument reads afterwards as it read before. No condition. -/
import Derived.Test.YtmnkcblopbjiaaaOpen
import Derived.Test.YtmnkcblopbjiaaaLaw
namespace Go.Proofs.Ytmnkcblopbjiaaa
open Go.ChangeShapes Go.WideShapes Go.ChangeAt Go.RowKit Go.Deep

theorem suf_nonneg {r : Rec} (h : RecWf r) : 0 ≤ r.suf := by
  have := h.suf
  simp [Lit.wf] at this
  have h0 : IntKind.u8.min = 0 := by decide
  omega

set_option maxRecDepth 100000 in
theorem matchCompares_lifted (os : Os) (started : os.Started) (H : Type) (enc : TypeId × Value → H) :
    ReturnsInHanded {} Try.checked os 4 .any (Rows.matchComparesSpec.pre6 enc Try.prog Try.f4 Rows.matchComparesRow.domain false) (Rows.matchComparesSpec.post enc Try.prog Try.f4 false true false false) := by
  refine returnsInHanded_of_change (C := Try.checked) Try.own started (by kernel_rfl) Try.func4
    (ChangeSpec.witness6 (enc := enc) (C := Try.checked) false ⟨#[], #[.agg #[.int .i64 0, .int .i64 0, .int .i64 0, .int .i64 0], .agg #[.int .i64 0, .slice none 0 0, .int .u8 0, .int .i64 0, .int .i64 0, .string ByteArray.empty, .bool false, .slice none 0 0], .agg #[.int .i64 0, .slice none 0 0, .int .u8 0, .int .i64 0, .int .i64 0, .string ByteArray.empty, .bool false, .slice none 0 0]], []⟩ 8 (by kernel_rfl) (by kernel_rfl) (by kernel_rfl) (by kernel_rfl)) ?_
  intro W base args ds gs before hval0 hW _ _
  have hval : ∀ (j : Nat) t v, Try.f4.params[j]? = some t → args[j]? = some v → Value.okWide Try.prog W .any base t v := hval0
  have hW' := hW
  obtain ⟨p, q, hA0, hV, rfl, _, _⟩ := hW
  have hA : DataW.TrodAll enc Try.prog W 0 (fun _ => true) true Try.f4.params.toList args.toList ds p := hA0
  rw [Try.params4] at hA hval
  obtain ⟨v0, v1, v2, d0, d1, d2, p0, p1, p2, rfl, rfl, rfl, h0, h1, h2⟩ := trodAll_three hA
  obtain ⟨rfl, rfl⟩ := trodVars_none hV
  have k0 := h0
  have k1 := h1
  have k2 := h2
  obtain ⟨cs0, rfl, _⟩ := okWide_struct Try.underlying23 (hval 0 23 v0 rfl rfl)
  obtain ⟨cs1, rfl, _⟩ := okWide_struct Try.underlying29 (hval 1 29 v1 rfl rfl)
  obtain ⟨cs2, rfl, _⟩ := okWide_struct Try.underlying29 (hval 2 29 v2 rfl rfl)
  obtain ⟨f0, hf0⟩ := h0
  obtain ⟨f1, hf1⟩ := h1
  obtain ⟨f2, hf2⟩ := h2
  obtain ⟨u, hu, _⟩ := rul_of_trod (show DataW.trod enc Try.prog W 0 (fun _ => true) true f0 23 cs0.toList = some (d0, p0) from hf0)
  obtain ⟨r, A, c, D, d, hr, hrec, hwf, hc⟩ := rec_of_trod (show DataW.trod enc Try.prog W 0 (fun _ => true) true f1 29 cs1.toList = some (d1, p1) from hf1)
  obtain ⟨s, A', c', D', d', hs, hrec', hwf', hc'⟩ := rec_of_trod (show DataW.trod enc Try.prog W 0 (fun _ => true) true f2 29 cs2.toList = some (d2, p2) from hf2)
  obtain rfl : cs0 = #[.int .i64 u.l, .int .i64 u.d, .int .i64 u.y, .int .i64 u.t] := by rw [← Array.toList_inj, hu]
  obtain rfl : cs1 = #[.int .i64 r.id, .slice A r.names.length c, .int .u8 r.suf, .int .i64 r.lo, .int .i64 r.hi, .string r.num, .bool r.twin, .slice D r.stays.length d] := by rw [← Array.toList_inj, hr]
  obtain rfl : cs2 = #[.int .i64 s.id, .slice A' s.names.length c', .int .u8 s.suf, .int .i64 s.lo, .int .i64 s.hi, .string s.num, .bool s.twin, .slice D' s.stays.length d'] := by rw [← Array.toList_inj, hs]
  clear hA0 hval0 hf0 hf1 hf2
  simp only [List.append_nil] at hW'
  have hlt : ∀ z ∈ p0 ++ p1 ++ p2, z.block < W.heap.size := fun z hz => by simpa using hW'.lt z hz
  refine (matchCompares_any u r s A A' D D' c c' d d' W (suf_nonneg hwf) (suf_nonneg hwf') hrec hrec' hc hc').mono fun e W' ⟨he, hb⟩ => ?_
  subst he
  refine ⟨_, rfl, _, _, _, [], p0 ++ p1 ++ p2, [], hW', ?_, ?_, rfl, hb.frame _, fun h => by cases h⟩
  · exact trodAll_mk1 (shut_bool Try.underlying4 true)
  · have ht := trodAll_mk3 (Below.trod Try.laidOut (by kernel_rfl) (of_decide_eq_true (by kernel_rfl)) k0 hb fun z hz => hlt z (by simp [hz])) (Below.trod Try.laidOut (by kernel_rfl) (of_decide_eq_true (by kernel_rfl)) k1 hb fun z hz => hlt z (by simp [hz]))
      (Below.trod Try.laidOut (by kernel_rfl) (of_decide_eq_true (by kernel_rfl)) k2 hb fun z hz => hlt z (by simp [hz]))
    first | exact ht | (rw [← List.append_assoc] at ht; exact ht)

theorem matchCompares_holds : Rows.MatchComparesSaid :=
  OpenClaim.holds_of_wide 4 Try.f4 rfl rfl rfl rfl rfl rfl rfl ⟨rfl, rfl, rfl, rfl, rfl⟩ rfl rfl rfl rfl rfl (by kernel_rfl) Try.func4 (by kernel_rfl)
    (of_decide_eq_true (by kernel_rfl)) (by unfold Func.isWrapper; first | (rw [if_pos (by decide +kernel)]; kernel_rfl) | (rw [if_neg (by decide +kernel)]; exact ⟨rfl, rfl⟩))
    (fun os started H enc _ => matchCompares_lifted os started H enc)

#print axioms matchCompares_holds
end Go.Proofs.Ytmnkcblopbjiaaa
