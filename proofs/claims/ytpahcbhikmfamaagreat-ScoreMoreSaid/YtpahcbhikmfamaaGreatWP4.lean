/- A number put in order, by the reference. Written by a program. -/
import Derived.Test.YtpahcbhikmfamaaGreatSBDat
import Derived.Test.YtpahcbhikmfamaaGreatWQ1
import Derived.Test.YtpahcbhikmfamaaGreatWQ2
import Derived.Test.YtpahcbhikmfamaaGreatWP1

namespace Go.Proofs.YtpahcbhikmfamaaGreat
open Go.RowKit Go.Maps

theorem putI_at : ∀ (l : List Int) (n : Int) (i : Nat), i ≤ l.length → (∀ j (h : j < l.length), j < i → l[j] < n) → (∀ h : i < l.length, n < l[i]) → putI l n = l.take i ++ n :: l.drop i
  | [], n, i, hi, _, _ => by obtain rfl : i = 0 := by simpa using hi
                             rfl
  | x :: r, n, 0, _, _, h2 => by
    have h3 := h2 (by simp)
    simp only [List.getElem_cons_zero] at h3
    simp only [putI, List.take_zero, List.drop_zero, List.nil_append]
    rw [if_neg (by omega), if_neg (by omega)]
  | x :: r, n, i + 1, hi, h1, h2 => by
    have h3 := h1 0 (by simp) (by omega)
    simp only [List.getElem_cons_zero] at h3
    simp only [putI, List.take_succ_cons, List.drop_succ_cons, List.cons_append]
    rw [if_pos h3, putI_at r n i (by simpa using hi) (fun j h hj => by have := h1 (j + 1) (by simpa using h) (by omega); simpa using this) (fun h => by have := h2 (by simpa using h); simpa using this)]
theorem putI_has : ∀ (l : List Int) (n : Int) (i : Nat) (hi : i < l.length), (∀ j (h : j < l.length), j < i → l[j] < n) → l[i] = n → putI l n = l
  | x :: r, n, 0, _, _, h2 => by
    simp only [List.getElem_cons_zero] at h2
    simp only [putI]
    rw [if_neg (by omega), if_pos h2]
  | x :: r, n, i + 1, hi, h1, h2 => by
    have h3 := h1 0 (by simp) (by omega)
    simp only [List.getElem_cons_zero] at h3
    simp only [putI]
    rw [if_pos h3, putI_has r n i (by simpa using hi) (fun j h hj => by have := h1 (j + 1) (by simpa using h) (by omega); simpa using this) (by simpa using h2)]
theorem ints_take {w : World} {A : Option Addr} {l : List Int} (h : IntsAt w w.heap.size A l) (i : Nat) : IntsAt w w.heap.size A (l.take i) := fun k hk => by
  obtain ⟨b, off, e, h1, h2⟩ := h k (by rw [List.length_take] at hk; omega)
  exact ⟨b, off, e, h1, fun j hj => by rw [h2 j hj, List.getElem_take]⟩
theorem ints_drop {w : World} {b off : Nat} {l : List Int} (h : IntsAt w w.heap.size (some ⟨b, off, none⟩) l) (i : Nat) : IntsAt w w.heap.size (some ⟨b, off + i, none⟩) (l.drop i) := fun k hk => by
  obtain ⟨b', off', e, h1, h2⟩ := h (i + k) (by rw [List.length_drop] at hk; omega)
  cases e
  refine ⟨b, off + i, rfl, h1, fun j hj => ?_⟩
  have := h2 j hj
  rw [List.getElem_drop, ← this]
  congr 2
  omega
theorem ints_end {w : World} {A : Option Addr} {l : List Int} (_ : IntsAt w w.heap.size A l) (i : Nat) (hi : l.length ≤ i) : IntsAt w w.heap.size A (l.drop i) := by
  rw [List.drop_eq_nil_of_le hi]; exact Flat.nil _ _ _ _ _
theorem int_ones {n : Int} : ∀ u ∈ [Value.int .i64 n], u.oneCell' = true := fun u hu => by rw [List.mem_singleton] at hu; subst hu; rfl
theorem int_blk {w : World} {g : Nat} {n : Int} {t : TypeId} (h : Blk w g #[.int .i64 n] t) : ∀ j u, [Value.int .i64 n][j]? = some u → w.cell? ((⟨g, 0, none⟩ : Addr).add j) = some u := fun j u hj => by
  rw [WideShapes.add_plain, Nat.zero_add]
  exact (h.cell j).trans (by simpa using hj)
theorem int_newB (w : World) (n : Int) (t : TypeId) : ∀ j u, [Value.int .i64 n][j]? = some u → (w.alloc (.cells #[.int .i64 n] t)).cell? ((⟨w.heap.size, 0, none⟩ : Addr).add j) = some u := int_blk (Blk.new w _ t)
theorem own_cap {w : World} {base : Nat} {e : TypeId} {size n c : Nat} {A : Option Addr} {xs : List Value} (h : w.ownsRow base e size (.slice A n c) n xs) : n ≤ c := by
  rcases h.2 with ⟨e1, e2⟩ | ⟨g, cap, cur, e1, _, _, h2, _⟩
  · omega
  · injection e1 with _ _ e3; omega

/-- The numbers with one put in order. -/
def PutS (w : World) (A : Option Addr) (l : List Int) (e : Ending) (w' : World) : Prop :=
  ∃ A' c', e = .returned (.slice A' l.length c') ∧ IntsAt w' w'.heap.size A' l ∧ l.length ≤ c' ∧ Below w.heap.size w w' ∧ (A' = A ∨ ∀ ad, A' = some ad → w.heap.size ≤ ad.block)
theorem own_new {w : World} {base : Nat} {e : TypeId} {size n c : Nat} {A : Option Addr} {xs : List Value} (h : w.ownsRow base e size (.slice A n c) n xs) : ∀ ad, A = some ad → base ≤ ad.block := fun ad hA => by
  rcases h.2 with ⟨e1, _⟩ | ⟨g, cap, cur, e1, h1, _⟩
  · injection e1 with e2; rw [e2] at hA; cases hA
  · injection e1 with e2; rw [e2] at hA; cases hA; exact h1
theorem put_end {w w' : World} {l : List Int} {n : Int} {i : Nat} {A A0 : Option Addr} {c : Nat} (hv : putI l n = l.take i ++ n :: l.drop i) (hi : i ≤ l.length) (h : w'.ownsRow w.heap.size 3 1 (.slice A (i + 1 + (l.length - i)) c) (i + 1 + (l.length - i)) (((l.take i).flatMap intC ++ [.int .i64 n]) ++ (l.drop i).flatMap intC)) (hb : Below w.heap.size w w') : PutS w A0 (putI l n) (.returned (.slice A (i + 1 + (l.length - i)) c)) w' := by
  have e1 : (putI l n).length = i + 1 + (l.length - i) := by rw [hv]; simp only [List.length_append, List.length_cons, List.length_take, List.length_drop]; omega
  have e2 : (putI l n).flatMap intC = ((l.take i).flatMap intC ++ [.int .i64 n]) ++ (l.drop i).flatMap intC := by rw [hv]; simp [intC]
  rw [← e1, ← e2] at h
  refine ⟨A, c, by rw [e1], ?_, own_cap h, hb, .inr (own_new h)⟩
  exact (FlatP.of_own (P := fun _ => True) intC_len (by decide) h (fun _ _ _ _ => trivial)).flat

theorem put_end0 {w w' : World} {l : List Int} {n : Int} {i : Nat} {A A0 : Option Addr} {c : Nat} (hv : putI l n = l.take i ++ n :: l.drop i) (hi : i = l.length) (h : w'.ownsRow w.heap.size 3 1 (.slice A (i + 1) c) (i + 1) ((l.take i).flatMap intC ++ [.int .i64 n])) (hb : Below w.heap.size w w') : PutS w A0 (putI l n) (.returned (.slice A (i + 1) c)) w' := by
  have e1 : (putI l n).length = i + 1 := by rw [hv]; simp only [List.length_append, List.length_cons, List.length_take, List.length_drop]; omega
  have e2 : (putI l n).flatMap intC = (l.take i).flatMap intC ++ [.int .i64 n] := by rw [hv, List.drop_eq_nil_of_le (by omega)]; simp [intC]
  rw [← e1, ← e2] at h
  refine ⟨A, c, by rw [e1], ?_, own_cap h, hb, .inr (own_new h)⟩
  exact (FlatP.of_own (P := fun _ => True) intC_len (by decide) h (fun _ _ _ _ => trivial)).flat

end Go.Proofs.YtpahcbhikmfamaaGreat

namespace Go.Proofs.YtpahcbhikmfamaaGreat
open Go.RowKit Go.Maps

def fcC (tr : Nat) (y : CrdD) : List Int := (y.v.scales.getD tr default).cuts
def ftC (tr : Nat) (y : TreD) : List Int := nodCuts (tr : Int) y.v.nodes
theorem cutsT_eq (traits need : Int) (cl : List CrdD) (tl : List TreD) (tr : Nat) : cutsT ⟨traits, cl.map CrdD.v, tl.map TreD.v, need⟩ tr = cl.flatMap (fcC tr) ++ tl.flatMap (ftC tr) := by
  unfold cutsT
  simp only [List.flatMap_map]
  rfl
theorem fcC_eq {tr : Nat} {y : CrdD} (h : tr < y.scales.length) : fcC tr y = (y.scales[tr]).v.cuts := by
  unfold fcC CrdD.v
  simp only
  rw [getD_lt _ _ (by simpa using h)]
  simp
theorem stepsI_snoc (lo hi : Int) (cs : List Int) (n : Int) : stepsI lo hi (cs ++ [n]) = if spanIn lo hi n = true then putI (stepsI lo hi cs) n else stepsI lo hi cs := by
  unfold stepsI; rw [List.foldl_append]; rfl
theorem putI_lenR : ∀ (l : List Int) (n : Int), (putI l n).length ≤ l.length + 1 ∧ putI l n ≠ []
  | [], n => by simp [putI]
  | x :: r, n => by
    have := putI_lenR r n
    unfold putI
    split
    · simp; omega
    · split <;> simp
theorem stepsI_lenR (lo hi : Int) : ∀ (cs a : List Int), a ≠ [] → (cs.foldl (fun a c => if spanIn lo hi c = true then putI a c else a) a).length ≤ a.length + cs.length ∧ cs.foldl (fun a c => if spanIn lo hi c = true then putI a c else a) a ≠ []
  | [], a, h => ⟨by simp, h⟩
  | c :: cs, a, h => by
    rw [List.foldl_cons]
    by_cases hc : spanIn lo hi c = true
    · rw [if_pos hc]
      have h1 := putI_lenR a c
      have := stepsI_lenR lo hi cs (putI a c) h1.2
      exact ⟨by rw [List.length_cons]; omega, this.2⟩
    · rw [if_neg hc]
      have := stepsI_lenR lo hi cs a h
      exact ⟨by rw [List.length_cons]; omega, this.2⟩
theorem flatMap_leR {α β : Type} {f : α → List β} {b : Nat} : ∀ {l : List α}, (∀ x ∈ l, (f x).length ≤ b) → (l.flatMap f).length ≤ l.length * b
  | [], _ => by simp
  | x :: l, h => by
    rw [List.flatMap_cons, List.length_append, List.length_cons, Nat.succ_mul]
    have := flatMap_leR (l := l) (f := f) (b := b) (fun y hy => h y (List.mem_cons_of_mem _ hy))
    have := h x (List.mem_cons_self ..)
    omega
theorem ints_blk {w : World} {g : Nat} {n : Int} {t : TypeId} (h : Blk w g #[.int .i64 n] t) : IntsAt w w.heap.size (some ⟨g, 0, none⟩) [n] := fun k hk => by
  obtain rfl : k = 0 := by simpa using hk
  refine ⟨g, 0, rfl, h.lt, fun j hj => ?_⟩
  obtain rfl : j = 0 := by omega
  have := h.cell 0
  simpa [intC] using this
theorem fcC_len {tr : Nat} {m : MdlD} (hls : MdlLe m) {y : CrdD} (hy : y ∈ m.cards) (h : tr < y.scales.length) : (fcC tr y).length ≤ 10 := by
  rw [fcC_eq h]; exact (hls.scl y hy _ (List.getElem_mem h)).cuts
theorem ftC_len {tr : Nat} {m : MdlD} (hls : MdlLe m) {y : TreD} (hy : y ∈ m.trees) : (ftC tr y).length ≤ 20 := by
  unfold ftC nodCuts
  rw [List.length_map]
  exact Nat.le_trans (List.length_filter_le _ _) (hls.nodes y hy)
theorem nodCuts_snocR (k : Int) (l : List Nod) (n : Nod) : nodCuts k (l ++ [n]) = if n.tr = k then nodCuts k l ++ [n.cut] else nodCuts k l := by
  unfold nodCuts
  rw [List.filter_append, List.map_append]
  by_cases h : n.tr = k <;> simp [h]
/-- What is put is not too much. -/
theorem stepsI_fit (lo hi : Int) (cs : List Int) (h : cs.length ≤ 1000) : (stepsI lo hi cs).length ≤ 100000 ∧ stepsI lo hi cs ≠ [] := by
  have := stepsI_lenR lo hi cs [lo] (by simp)
  simp only [List.length_singleton] at this
  exact ⟨by unfold stepsI; omega, this.2⟩

/-- The steps, in new memory. -/
def StepS (w : World) (l : List Int) (e : Ending) (w' : World) : Prop :=
  ∃ A' c', e = .returned (.slice A' l.length c') ∧ IntsAt w' w'.heap.size A' l ∧ l.length ≤ c' ∧ Below w.heap.size w w' ∧ ∀ ad, A' = some ad → w.heap.size ≤ ad.block

end Go.Proofs.YtpahcbhikmfamaaGreat

namespace Go.Proofs.YtpahcbhikmfamaaGreat
open Go.RowKit Go.Maps

set_option maxRecDepth 100000 in
theorem values6_len (traits : Int) (X1 X2 X3 : Value) (x : List Int) (A : Option Addr) (a : Nat) (w : World) (hl : x.length ≤ maxLen) (hq : ¬ (x.length : Int) = traits) :
    Calls Tryz.prog 17 #[.agg #[.int .i64 traits, X1, X2, X3], .slice A x.length a] w fun e w' => e = .returned (.bool false) ∧ Below w.heap.size w w' := by
  have b1 := (Below.refl w.heap.size w).alloc (Nat.le_refl _) (.cells #[.int .i64 traits, X1, X2, X3] 25)
  have k1 := Blk.new w #[.int .i64 traits, X1, X2, X3] 25
  have k1c := k1.cell
  have hw : IntKind.i64.wrap (x.length : Int) = (x.length : Int) := by unfold maxLen at hl; exact IntWalk.i64_in _ (by omega)
  have hq2 : ((x.length : Int) != traits) = true := by simpa using hq
  clear hq
  go_enter Tryz.func17, Tryz.ntmps17
  go_wp2_with fail
  go_ret
  exact ⟨rfl, b1⟩
/-- Whether a model and values are ready. -/
def rdyB (m : MdlD) (M : Mdl) (x : List Int) : Bool := mdlLeB m && (mdlB M && valsB M.traits x)
set_option maxRecDepth 100000 in
set_option maxHeartbeats 4000000 in
theorem ready_all (traits need : Int) (cl : List CrdD) (tl : List TreD) (C T : Option Addr) (c t : Nat) (x : List Int) (X : Option Addr) (xc : Nat) (w : World) (h : MdlAt w w.heap.size ⟨traits, cl, C, c, tl, T, t, need⟩) (hx : IntsAt w w.heap.size X x) (hxm : x.length ≤ maxLen) :
    Calls Tryz.prog 5 #[.agg #[.int .i64 traits, .slice C cl.length c, .slice T tl.length t, .int .i64 need], .slice X x.length xc] w fun e w' => e = .returned (.bool (rdyB ⟨traits, cl, C, c, tl, T, t, need⟩ ⟨traits, cl.map CrdD.v, tl.map TreD.v, need⟩ x)) ∧ Below w.heap.size w w' := by
  have b1 := (Below.refl w.heap.size w).alloc (Nat.le_refl _) (.cells #[.int .i64 traits, .slice C cl.length c, .slice T tl.length t, .int .i64 need] 25)
  have k1 := Blk.new w #[.int .i64 traits, .slice C cl.length c, .slice T tl.length t, .int .i64 need] 25
  have HGr := Lib.hid (fun W hb => great6_all traits need cl tl C T c t W (h.later hb))
  have q1 := k1.lt
  have k1c := k1.cell
  unfold rdyB
  cases hg : mdlLeB ⟨traits, cl, C, c, tl, T, t, need⟩ with
  | false =>
    rw [hg] at HGr
    clear h hx hg
    rw [Bool.false_and]
    go_enter Tryz.func5, Tryz.ntmps5
    go_wp2_with (go_at_call 15; (with_reducible refine (HGr.out _ b1).mono ?_); rintro e w1 ⟨rfl, h1⟩)
    go_ret
    exact ⟨rfl, b1.trans (h1.mono b1.size)⟩
  | true =>
    rw [hg] at HGr
    have hls := mdlLe_of hg
    have HCk := Lib.hid (fun W hb => check6_all traits need cl tl C T c t W (h.later hb) hls)
    clear hg
    rw [Bool.true_and]
    cases hM : mdlB ⟨traits, cl.map CrdD.v, tl.map TreD.v, need⟩ with
    | false =>
      have hE : mdlE ⟨traits, cl.map CrdD.v, tl.map TreD.v, need⟩ = 60 := by unfold mdlE; rw [hM]; rfl
      rw [hE] at HCk
      clear h hx hls hM hE
      rw [Bool.false_and]
      go_enter Tryz.func5, Tryz.ntmps5
      go_wp2_with (first
        | (go_at_call 15; (with_reducible refine (HGr.out _ b1).mono ?_); rintro e w1 ⟨rfl, h1⟩; have b2 := b1.trans (h1.mono b1.size); have k2c := (k1.below h1 q1).cell)
        | (go_at_call 16; (with_reducible refine (HCk.out _ b2).mono ?_); rintro e w2 ⟨rfl, h2⟩))
      go_ret
      exact ⟨rfl, b2.trans (h2.mono b2.size)⟩
    | true =>
      have hE : mdlE ⟨traits, cl.map CrdD.v, tl.map TreD.v, need⟩ = 0 := by unfold mdlE; exact if_pos hM
      rw [hE] at HCk
      have ht := (mdlB_parts hM).1
      rw [Bool.true_and]
      have HVa : Hid (∀ W, Below w.heap.size w W → Calls Tryz.prog 17 #[.agg #[.int .i64 traits, .slice C cl.length c, .slice T tl.length t, .int .i64 need], .slice X x.length xc] W fun e w' => e = .returned (.bool (valsB traits x)) ∧ Below W.heap.size W w') := Lib.hid (fun W hb => by
        by_cases hl : x.length ≤ 10
        · exact values6_any traits _ _ _ x X xc W (hx.later hb) hl
        · have hv : valsB traits x = false := by
            dsimp only at ht
            unfold valsB
            rw [decide_eq_false (by omega), Bool.false_and]
          rw [hv]
          exact values6_len traits _ _ _ x X xc W hxm (by dsimp only at ht; omega))
      show Calls Tryz.prog 5 #[.agg #[.int .i64 traits, .slice C cl.length c, .slice T tl.length t, .int .i64 need], .slice X x.length xc] w fun e w' => e = .returned (.bool (valsB traits x)) ∧ Below w.heap.size w w'
      generalize valsB traits x = V at *
      clear h hx hls hM hE ht
      go_enter Tryz.func5, Tryz.ntmps5
      go_wp2_with (first
        | (go_at_call 15; (with_reducible refine (HGr.out _ b1).mono ?_); rintro e w1 ⟨rfl, h1⟩; have b2 := b1.trans (h1.mono b1.size); have k2 := k1.below h1 q1; have k2c := k2.cell)
        | (go_at_call 16; (with_reducible refine (HCk.out _ b2).mono ?_); rintro e w2 ⟨rfl, h2⟩; have b3 := b2.trans (h2.mono b2.size); have k3c := (k2.below h2 k2.lt).cell)
        | (go_at_call 17; (with_reducible refine (HVa.out _ b3).mono ?_); rintro e w3 ⟨rfl, h3⟩))
      go_ret
      exact ⟨rfl, b3.trans (h3.mono b3.size)⟩
end Go.Proofs.YtpahcbhikmfamaaGreat
