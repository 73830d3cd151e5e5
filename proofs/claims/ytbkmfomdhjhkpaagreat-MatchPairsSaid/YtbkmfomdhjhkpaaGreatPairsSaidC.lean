/- For every rules, list of records and turn the law on the pairs of a list, in any order, returns true, and each argument reads afterwards as it read before. No condition. -/
import Derived.Test.YtbkmfomdhjhkpaaGreatPairsWalkC
import Derived.Test.YtbkmfomdhjhkpaaGreatPairsLawC
import Derived.Test.YtbkmfomdhjhkpaaGreatPairsPre
import Derived.Test.YtbkmfomdhjhkpaaGreatRows
namespace Go.Proofs.YtbkmfomdhjhkpaaGreat
open Go.ChangeShapes Go.WideShapes Go.ChangeAt Go.RowKit Go.Deep Go.Maps

theorem suf_nonneg {r : Rec} (h : RecWf r) : 0 ≤ r.suf := by
  have := h.suf
  simp [Lit.wf] at this
  have h0 : IntKind.u8.min = 0 := by decide
  omega

set_option maxRecDepth 100000 in
theorem matchPairs_any (u : Rul) (l : List RD) (A : Option Addr) (c : Nat) (seed : Int) (w : World) (h : Recs w w.heap.size A l) (hl : l.length ≤ maxLen) (hcap : l.length ≤ c) (hsuf : ∀ x ∈ l, 0 ≤ x.r.suf) (hs8 : 0 ≤ seed ∧ seed ≤ 255) :
    Calls Tryz.prog 8 #[.agg #[.int .i64 u.l, .int .i64 u.d, .int .i64 u.y, .int .i64 u.t], .slice A l.length c, .int .u8 seed] w fun e w' => e = .returned (.bool true) ∧ Below w.heap.size w w' := by
  by_cases he : greatL l = true ∨ rulesB u.l u.d u.y u.t = false ∨ recsE (l.map RD.r) ≠ 0 ∨ l = []
  · exact matchPairs_early u l A c seed w h hl he
  · have hg : greatL l = false := by
      cases h1 : greatL l with
      | true => exact absurd (.inl h1) he
      | false => rfl
    have hR : rulesB u.l u.d u.y u.t = true := by
      cases h1 : rulesB u.l u.d u.y u.t with
      | false => exact absurd (.inr (.inl h1)) he
      | true => rfl
    have hz : recsE (l.map RD.r) = 0 := Decidable.byContradiction fun h1 => he (.inr (.inr (.inl h1)))
    have hn : l ≠ [] := fun h1 => he (.inr (.inr (.inr h1)))
    have hpos : 0 < l.length := List.length_pos_iff.2 hn
    clear he
    obtain ⟨b, off, rfl, _⟩ := h 0 hpos
    have h24 : l.length ≤ 24 := by have := (recB_of_zero hz).2; rwa [List.length_map] at this
    obtain ⟨k, hk, hmod⟩ : ∃ k : Nat, k < l.length ∧ seed.tmod (l.length : Int) = (k : Int) := by
      have h1 : seed.tmod (l.length : Int) = seed % (l.length : Int) := Int.tmod_eq_emod_of_nonneg hs8.1
      have h2 := Int.emod_nonneg seed (show (l.length : Int) ≠ 0 by omega)
      have h3 := Int.emod_lt_of_pos seed (show (0 : Int) < (l.length : Int) by omega)
      exact ⟨(seed % (l.length : Int)).toNat, by omega, by rw [h1]; omega⟩
    have hp0 := turned_perm l k
    obtain ⟨x0, t, htl⟩ : ∃ x0 t, l.drop k ++ l.take k = x0 :: t := by
      cases h1 : l.drop k ++ l.take k with
      | nil => have := hp0.length_eq; rw [h1] at this; simp at this; omega
      | cons x t => exact ⟨x, t, rfl⟩
    have hperm : (x0 :: t).Perm l := htl ▸ hp0
    have hlt : t.length + 1 = l.length := hperm.length_eq
    have hpm0 : (l.map RD.r).Perm (x0.r :: t.map RD.r) := (hperm.map RD.r).symm
    have hzt : recsE (t.map RD.r) = 0 := recsE_sub (List.sublist_cons_self x0.r (t.map RD.r)) (recsE_perm hpm0 hz)
    have hrec : ∀ x ∈ l, recB x.r = true := fun x hx => ((recsE_iff _).1 hz).2.1 x.r (List.mem_map_of_mem hx)
    have hnd : (l.map fun x => x.r.id).Nodup := by have := recs_nodup hz; rwa [List.map_map] at this
    refine matchPairs_walk u l b off c seed k x0 t _ _ _ _ w h hcap hk h24 hmod hs8 htl (Lib.hid hrec) (Lib.hid hnd) (Lib.hid (pairsD_of hR hz hperm)) (Lib.hid alive_any) (Lib.hid fun W hh => ?_) (Lib.hid fun W => ?_) (Lib.hid fun W hh => ?_) (Lib.hid fun l2 A2 c2 W hp hh => ?_) (Lib.hid fun A2 c2 W hh => ?_) (Lib.hid fun P A1 A2 c1 c2 W hP h1 h2 => samePairs_any P A1 A2 c1 c2 W h1 h2 (Nat.le_trans hP (by simp [maxLen]))) (Lib.hid fun x hx y hy W h1 h2 => ?_)
    · have q := great_any l (some ⟨b, off, none⟩) c W hh hl
      rw [hg] at q
      exact q
    · have q := refRules_below u.l u.d u.y u.t W
      rw [hR] at q
      exact q
    · have q := refRecords_any l (some ⟨b, off, none⟩) c W hh hl
      rw [listE_eq, hz] at q
      exact q
    · have q := pairs_any u l2 A2 c2 W hh (by rw [hp.length_eq]; exact hl) (fun x hx => by obtain ⟨y, hy, rfl⟩ := List.mem_map.1 hx; exact hsuf y (hp.mem_iff.1 hy))
      have hpm := hp.map RD.r
      rw [pairsE_zero hR (recsE_perm hpm.symm hz), pairsV_perm hR hpm.symm hz, pairsV_perm hR hpm.symm hz, hp.length_eq] at q
      refine q.mono fun e w' ⟨v4, v5, he, o4, o5, hb⟩ => ?_
      obtain ⟨A4, c4, rfl⟩ := own_slice o4
      obtain ⟨A5, c5, rfl⟩ := own_slice o5
      exact ⟨A4, c4, A5, c5, he, Prs.of_own o4, Prs.of_own o5, hb⟩
    · have q := pairs_any u t A2 c2 W hh (by omega) (fun x hx => by obtain ⟨y, hy, rfl⟩ := List.mem_map.1 hx; exact hsuf y (hperm.mem_iff.1 (List.mem_cons_of_mem _ hy)))
      rw [pairsE_zero hR hzt, show t.length = l.length - 1 by omega] at q
      refine q.mono fun e w' ⟨v4, v5, he, o4, o5, hb⟩ => ?_
      obtain ⟨A4, c4, rfl⟩ := own_slice o4
      obtain ⟨A5, c5, rfl⟩ := own_slice o5
      exact ⟨A4, c4, A5, c5, he, Prs.of_own o4, own_none o4, Prs.of_own o5, own_none o5, hb⟩
    · have hE : cmpE u x.r y.r = 0 := by simp [cmpE, hR, hrec x hx, hrec y hy]
      have q := compare_any u x.r y.r x.A y.A x.D y.D x.c y.c x.d y.d W (hsuf x hx) (hsuf y hy) h1 h2 (h.ofMem hx).2 (h.ofMem hy).2
      rw [cmpM_good hE, hE] at q
      exact q

set_option maxRecDepth 100000 in
theorem matchPairs_lifted (os : Os) (started : os.Started) (H : Type) (enc : TypeId × Value → H) :
    ReturnsInHanded {} Tryz.checked os 8 .any (Rows.matchPairsSpec.pre6 enc Tryz.prog Tryz.f8 Rows.matchPairsRow.domain false) (Rows.matchPairsSpec.post enc Tryz.prog Tryz.f8 false true false false) := by
  refine returnsInHanded_of_change (C := Tryz.checked) Tryz.own started (by kernel_rfl) Tryz.func8
    (ChangeSpec.witness6 (enc := enc) (C := Tryz.checked) false ⟨#[], #[.agg #[.int .i64 0, .int .i64 0, .int .i64 0, .int .i64 0], .slice none 0 0, .int .u8 0], []⟩ 8 (by kernel_rfl) (by kernel_rfl) (by kernel_rfl) (by kernel_rfl)) ?_
  intro W base args ds gs before hval0 hW _ _
  have hval : ∀ (j : Nat) t v, Tryz.f8.params[j]? = some t → args[j]? = some v → Value.okWide Tryz.prog W .any base t v := hval0
  have hW' := hW
  obtain ⟨p, q, hA0, hV, rfl, _, _⟩ := hW
  have hA : DataW.TrodAll enc Tryz.prog W 0 (fun _ => true) true Tryz.f8.params.toList args.toList ds p := hA0
  rw [Tryz.params8] at hA hval
  obtain ⟨v0, v1, v2, d0, d1, d2, p0, p1, p2, rfl, rfl, rfl, h0, h1, h2⟩ := trodAll_three hA
  obtain ⟨rfl, rfl⟩ := trodVars_none hV
  have k0 := h0
  have k1 := h1
  have k2 := h2
  obtain ⟨cs0, rfl, _⟩ := okWide_struct Tryz.underlying23 (hval 0 23 v0 rfl rfl)
  obtain ⟨a1, n1, m1, rfl⟩ := okWide_slice Tryz.underlying24 (hval 1 24 v1 rfl rfl)
  obtain ⟨seed, rfl⟩ := okWide_int Tryz.underlying5 (hval 2 5 v2 rfl rfl)
  obtain ⟨f0, hf0⟩ := h0
  obtain ⟨f1, hf1⟩ := h1
  obtain ⟨f2, hf2⟩ := h2
  obtain ⟨seed2, hs2, _, wf2⟩ := DataW.trod_int Tryz.underlying5 (show DataW.trod enc Tryz.prog W 0 (fun _ => true) true f2 5 [.int .u8 seed] = some (d2, p2) from hf2)
  simp only [List.cons.injEq, Value.int.injEq, true_and, and_true] at hs2
  subst hs2
  have hs8 : 0 ≤ seed ∧ seed ≤ 255 := by
    simp [Lit.wf] at wf2
    have e0 : IntKind.u8.min = 0 := by decide
    have e1 : IntKind.u8.max = 255 := by decide
    omega
  obtain ⟨u, hu, _⟩ := rul_of_trod (show DataW.trod enc Tryz.prog W 0 (fun _ => true) true f0 23 cs0.toList = some (d0, p0) from hf0)
  obtain ⟨A, c, l, hl3, hrec, hwf, hln⟩ := recs_of_trod (show DataW.trod enc Tryz.prog W 0 (fun _ => true) true f1 24 [.slice a1 n1 m1] = some (d1, p1) from hf1)
  obtain ⟨rfl, rfl, rfl⟩ : a1 = A ∧ n1 = l.length ∧ m1 = c := by simpa using hl3
  have hcap : l.length ≤ m1 := by
    rcases open_slice Tryz.underlying24 (show DataW.trod enc Tryz.prog W 0 (fun _ => true) true f1 24 [.slice a1 l.length m1] = some (d1, p1) from hf1) with ⟨hc, _⟩ | ⟨_, _, _, _, _, _, _, hc, _, hl9, _⟩
    · simp only [List.cons.injEq, and_true, Value.slice.injEq] at hc
      omega
    · simp only [List.cons.injEq, and_true, Value.slice.injEq] at hc
      omega
  obtain rfl : cs0 = #[.int .i64 u.l, .int .i64 u.d, .int .i64 u.y, .int .i64 u.t] := by rw [← Array.toList_inj, hu]
  clear hA0 hval0 hf0 hf1 hf2
  simp only [List.append_nil] at hW'
  have hlt : ∀ z ∈ p0 ++ p1 ++ p2, z.block < W.heap.size := fun z hz => by simpa using hW'.lt z hz
  refine (matchPairs_any u l a1 m1 seed W hrec hln hcap (fun x hx => suf_nonneg (hwf x hx)) hs8).mono fun e W' ⟨he, hb⟩ => ?_
  subst he
  refine ⟨_, rfl, _, _, _, [], p0 ++ p1 ++ p2, [], hW', ?_, ?_, rfl, hb.frame _, fun h => by cases h⟩
  · exact trodAll_mk1 (shut_bool Tryz.underlying4 true)
  · have ht := trodAll_mk3 (Below.trod Tryz.laidOut (by kernel_rfl) (of_decide_eq_true (by kernel_rfl)) k0 hb fun z hz => hlt z (by simp [hz])) (Below.trod Tryz.laidOut (by kernel_rfl) (of_decide_eq_true (by kernel_rfl)) k1 hb fun z hz => hlt z (by simp [hz]))
      (Below.trod Tryz.laidOut (by kernel_rfl) (of_decide_eq_true (by kernel_rfl)) k2 hb fun z hz => hlt z (by simp [hz]))
    first | exact ht | (rw [← List.append_assoc] at ht; exact ht)

theorem matchPairs_holds : Rows.MatchPairsSaid :=
  OpenClaim.holds_of_wide 8 Tryz.f8 rfl rfl rfl rfl rfl rfl rfl ⟨rfl, rfl, rfl, rfl, rfl⟩ rfl rfl rfl rfl rfl (by kernel_rfl) Tryz.func8 (by kernel_rfl)
    (of_decide_eq_true (by kernel_rfl)) (by unfold Func.isWrapper; first | (rw [if_pos (by decide +kernel)]; kernel_rfl) | (rw [if_neg (by decide +kernel)]; exact ⟨rfl, rfl⟩))
    (fun os started H enc _ => matchPairs_lifted os started H enc)

#print axioms matchPairs_holds
end Go.Proofs.YtbkmfomdhjhkpaaGreat
