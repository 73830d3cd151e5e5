/- Whatever is asked by eight questions: the audit stays small. -/
import Derived.Test.YtbkekdbabkncfaaGreatV1
import Derived.Test.YtbkekdbabkncfaaGreatW4

namespace Go.Proofs.YtbkekdbabkncfaaGreat
open Go.RowKit Go.Maps Det

theorem dig_mem {b n : Nat} {x : Frc} (hx : x ∈ digL b n) : FrcOk x ∧ Bit (val x) := by
  unfold digL at hx
  obtain ⟨i, _, rfl⟩ := List.mem_map.1 hx
  have h := intF_ok ((b / 2 ^ i % 2 : Nat) : Int)
  refine ⟨h.1, ?_⟩
  rw [h.2]
  rcases Nat.mod_two_eq_zero_or_one (b / 2 ^ i) with e | e
  · rw [e]; exact .inl rfl
  · rw [e]; exact .inr rfl
theorem dig_get (b n i : Nat) : FrcOk ((digL b n).getD i default) ∧ Bit (val ((digL b n).getD i default)) := by
  by_cases hi : i < (digL b n).length
  · rw [getD_lt _ _ hi]
    exact dig_mem (List.getElem_mem hi)
  · rw [getD_beyond _ _ (by omega)]
    exact ⟨dflt_ok.1, .inl dflt_ok.2⟩
theorem dig_len (b n : Nat) : (digL b n).length = n := by unfold digL; simp
theorem dig_ok (b n : Nat) : ∀ x ∈ digL b n, FrcOk x := fun _ hx => (dig_mem hx).1
theorem eqn_ok (b b' S m : Nat) : EqOk S m ⟨digL b S, digL b' m⟩ ∧ ∀ c, Bit (col S ⟨digL b S, digL b' m⟩ c) := by
  refine ⟨⟨dig_len .., dig_len .., dig_ok _ _, dig_ok _ _⟩, fun c => ?_⟩
  unfold col
  split
  · exact (dig_get b S c).2
  · exact (dig_get b' m _).2
theorem bitsN_pos : ∀ {l : List Bool}, bitsN l ≠ 0 → ∃ i, i < l.length ∧ l.getD i false = true
  | [], h => absurd rfl h
  | true :: _, _ => ⟨0, by simp, rfl⟩
  | false :: r, h => by
    have h2 : bitsN r ≠ 0 := fun e => h (by simp [bitsN, e])
    obtain ⟨i, hi, e⟩ := bitsN_pos h2
    exact ⟨i + 1, by simpa using hi, by simpa using e⟩
theorem askL_len (q : Que) (ol : List SubD) : (askL q ol).length = ol.length := by unfold askL; simp
theorem eqn_some (l : List Bool) (b' m : Nat) (h : bitsN l ≠ 0) : empE ⟨digL (bitsN l) l.length, digL b' m⟩ = false := by
  obtain ⟨i, hi, e⟩ := bitsN_pos h
  have hb := bitsN_bit l i hi
  rw [e, if_pos rfl] at hb
  have h1 : (digL (bitsN l) l.length)[i]'(by rw [dig_len]; exact hi) = intF 1 := by
    unfold digL
    rw [List.getElem_map]
    simp only [List.getElem_range]
    rw [hb]; rfl
  unfold empE
  cases hf : fndF (digL (bitsN l) l.length) 0 with
  | some _ => rfl
  | none =>
    unfold fndF at hf
    rw [List.find?_eq_none] at hf
    have := hf i (by rw [List.mem_range, dig_len]; exact hi)
    rw [getD_lt _ _ (by rw [dig_len]; exact hi), h1] at this
    exact absurd (by rw [Bool.and_eq_true]; exact ⟨decide_eq_true (Nat.zero_le i), by decide⟩) this
theorem solS_le (ls : List Led) (e : Eqn) : (solS ls e).length ≤ ls.length + 1 := by
  unfold solS
  cases redE ls e with
  | none => simp
  | some x => simp only []; unfold joinL; simp
theorem solve_any (ol : List SubD) (m : Nat) : ∀ (qs : List Que) (k : Nat) (ls : List Led), LOk ol.length m ls → ls.length + qs.length ≤ 8 → solB ls (eqnL ol m k qs) = true ∧ LOk ol.length m (solL ls (eqnL ol m k qs))
  | [], _, _, h, _ => ⟨rfl, h⟩
  | q :: r, k, ls, h, hl => by
    simp only [eqnL]
    rw [List.length_cons] at hl
    split
    · exact solve_any ol m r (k + 1) ls h (by omega)
    · rename_i hne
      obtain ⟨x1, x2⟩ := eqn_ok (bitsN (askL q ol)) (2 ^ k) ol.length m
      have x3 : empE ⟨digL (bitsN (askL q ol)) ol.length, digL (2 ^ k) m⟩ = false := by
        have := eqn_some (askL q ol) (2 ^ k) m hne
        rwa [askL_len] at this
      obtain ⟨s1, s2⟩ := sol_ok h (by omega) x1 x2 x3
      have hlen := solS_le ls ⟨digL (bitsN (askL q ol)) ol.length, digL (2 ^ k) m⟩
      obtain ⟨t1, t2⟩ := solve_any ol m r (k + 1) _ s2 (by omega)
      simp only [solB, solL]
      rw [s1, t1]
      exact ⟨rfl, t2⟩
theorem over_dvd {x : Frc} (h : FrcOk x) {E : Int} {a : Nat} (hx : Over (E : Rat) a (val x)) (hz : E ≠ 0) : x.d ∣ E ∧ x.n.natAbs ≤ a := by
  refine ⟨?_, (over_bd h hx (b := E.natAbs) ⟨E, rfl, Nat.le_refl _⟩ (int_ne hz)).1⟩
  obtain ⟨N, e1, _⟩ := hx
  have k : x.n * E = N * x.d := by
    have h1 := val_mul h
    have h2 : ((x.n * E : Int) : Rat) = ((N * x.d : Int) : Rat) := by
      rw [Rat.intCast_mul, Rat.intCast_mul, ← e1, ← h1]; grind
    exact Rat.intCast_inj.1 h2
  have hco : Nat.Coprime x.d.natAbs x.n.natAbs := by
    have := h.2
    rw [Int.gcd_comm] at this; exact this
  have h1 : x.d.natAbs ∣ x.n.natAbs * E.natAbs := ⟨N.natAbs, by rw [← Int.natAbs_mul, k, Int.natAbs_mul]; exact Nat.mul_comm ..⟩
  exact Int.natAbs_dvd_natAbs.1 (hco.dvd_of_dvd_mul_left h1)
/-! What clears fractions over E. -/
theorem lcm_dvd {m d E : Int} (hm : 1 ≤ m) (hd : 1 ≤ d) (h1 : m ∣ E) (h2 : d ∣ E) : 1 ≤ m * (d / gcdI m d) ∧ m * (d / gcdI m d) ∣ E ∧ m ∣ m * (d / gcdI m d) ∧ d ∣ m * (d / gcdI m d) := by
  have hg : 0 < Int.gcd m d := Int.gcd_pos_of_ne_zero_right m (by omega)
  have e2 : d / gcdI m d * gcdI m d = d := Int.ediv_mul_cancel (by unfold gcdI; exact Int.gcd_dvd_right ..)
  have e1 : m / gcdI m d * gcdI m d = m := Int.ediv_mul_cancel (by unfold gcdI; exact Int.gcd_dvd_left ..)
  have e3 : Int.gcd (m / gcdI m d) (d / gcdI m d) = 1 := by
    unfold gcdI; exact Int.gcd_ediv_gcd_ediv_gcd hg
  have hgp : 0 < gcdI m d := by unfold gcdI; omega
  have hq : 0 < d / gcdI m d := Int.ediv_pos_of_pos_of_dvd (by omega) (by omega) (by unfold gcdI; exact Int.gcd_dvd_right ..)
  have hp : 0 < m * (d / gcdI m d) := Int.mul_pos (by omega) hq
  refine ⟨by omega, ?_, ⟨_, rfl⟩, ?_⟩
  · obtain ⟨u, hu⟩ := h1
    have h3 : d / gcdI m d ∣ m / gcdI m d * u := by
      have h4 : d / gcdI m d * gcdI m d ∣ m / gcdI m d * u * gcdI m d := by
        rw [e2, Int.mul_right_comm, e1, ← hu]; exact h2
      exact Int.dvd_of_mul_dvd_mul_right (by omega) h4
    have h5 : d / gcdI m d ∣ u := by
      have hco : Nat.Coprime (d / gcdI m d).natAbs (m / gcdI m d).natAbs := by
        rw [Int.gcd_comm] at e3; exact e3
      have h6 := Int.natAbs_dvd_natAbs.2 h3
      rw [Int.natAbs_mul] at h6
      exact Int.natAbs_dvd_natAbs.1 (hco.dvd_of_dvd_mul_left h6)
    obtain ⟨t, ht⟩ := h5
    exact ⟨t, by rw [hu, ht, Int.mul_assoc]⟩
  · refine ⟨m / gcdI m d, ?_⟩
    calc m * (d / gcdI m d) = m / gcdI m d * gcdI m d * (d / gcdI m d) := by rw [e1]
      _ = d / gcdI m d * gcdI m d * (m / gcdI m d) := by grind
      _ = d * (m / gcdI m d) := by rw [e2]
theorem clr_any {E : Int} (hE : E ≠ 0) (hB : E.natAbs ≤ 40320) : ∀ (l : List Frc) (m : Int), 1 ≤ m → m ∣ E → (∀ f ∈ l, 1 ≤ f.d ∧ f.d ∣ E) →
    clrB m l = true ∧ 1 ≤ clrL m l ∧ clrL m l ∣ E ∧ m ∣ clrL m l ∧ ∀ f ∈ l, f.d ∣ clrL m l
  | [], m, hm, hd, _ => by
    have h1 := Nat.le_of_dvd (by omega) (Int.natAbs_dvd_natAbs.2 hd)
    refine ⟨?_, hm, hd, ⟨1, (Int.mul_one _).symm⟩, by simp⟩
    simp only [clrB, inN_iff]; omega
  | f :: r, m, hm, hd, hl => by
    have h1 := Nat.le_of_dvd (by omega) (Int.natAbs_dvd_natAbs.2 hd)
    obtain ⟨f1, f2⟩ := hl f (by simp)
    have h2 := Nat.le_of_dvd (by omega) (Int.natAbs_dvd_natAbs.2 f2)
    obtain ⟨k1, k2, k3, k4⟩ := lcm_dvd hm f1 hd f2
    obtain ⟨i1, i2, i3, i4, i5⟩ := clr_any hE hB r _ k1 k2 (fun g hg => hl g (by simp [hg]))
    refine ⟨?_, i2, i3, Int.dvd_trans k3 i4, fun g hg => ?_⟩
    · simp only [clrB, Bool.and_eq_true, inN_iff]
      exact ⟨⟨by omega, by omega⟩, i1⟩
    · rcases List.mem_cons.1 hg with rfl | hg
      · exact Int.dvd_trans k4 i4
      · exact i5 g hg
/-- Fractions over E, of at most 40320. -/
def AllOver (E : Int) (l : List Frc) : Prop := ∀ f ∈ l, FrcOk f ∧ Over (E : Rat) 40320 (val f)
theorem all_clr {E : Int} (hE : E ≠ 0) (hB : E.natAbs ≤ 40320) {l : List Frc} (h : AllOver E l) : clrB 1 l = true ∧ 1 ≤ clrL 1 l ∧ clrL 1 l ∣ E ∧ (∀ f ∈ l, f.d ∣ clrL 1 l) ∧ mltB (clrL 1 l) l = true ∧ mltB (-clrL 1 l) l = true := by
  have hd : ∀ f ∈ l, 1 ≤ f.d ∧ f.d ∣ E := fun f hf => ⟨(h f hf).1.1, (over_dvd (h f hf).1 (h f hf).2 hE).1⟩
  obtain ⟨i1, i2, i3, _, i5⟩ := clr_any hE hB l 1 (Int.le_refl 1) ⟨E, (Int.one_mul _).symm⟩ hd
  have h1 := Nat.le_of_dvd (by omega) (Int.natAbs_dvd_natAbs.2 i3)
  have h3 : l.all (fun f => inN f.n (-1000000) 1000000 && inN f.d 1 1000000) = true := by
    rw [List.all_eq_true]
    intro f hf
    have h4 := (over_dvd (h f hf).1 (h f hf).2 hE).2
    obtain ⟨d1, d2⟩ := hd f hf
    have h5 := Nat.le_of_dvd (by omega) (Int.natAbs_dvd_natAbs.2 d2)
    rw [Bool.and_eq_true, inN_iff, inN_iff]
    omega
  refine ⟨i1, i2, i3, i5, ?_, ?_⟩
  · unfold mltB
    rw [h3, Bool.and_true, inN_iff]; omega
  · unfold mltB
    rw [h3, Bool.and_true, inN_iff]; omega
/-- The number that all of an elimination is over. -/
theorem LOk.whole {S m : Nat} {ls : List Led} (h : LOk S m ls) (h8 : ls.length ≤ 8) : ∃ E : Int, E ≠ 0 ∧ E.natAbs ≤ 40320 ∧ ∀ l ∈ ls, ∀ c, Over (E : Rat) 40320 (col S l.e c) := by
  obtain ⟨hw, e, hi⟩ := h
  have hd := hi.den.mono (fct8 h8)
  obtain ⟨E, e1, e2⟩ := hd
  refine ⟨E, fun e0 => hi.dne (by rw [e1, e0]; rfl), e2, fun l hl c => ?_⟩
  obtain ⟨j, hj, rfl⟩ := List.mem_iff_getElem.1 hl
  have h1 := hi.over hj c
  rw [e1] at h1
  unfold Lf at h1
  rw [getD_lt _ _ hj] at h1
  exact IntB.mono h1 (fct8 h8)
theorem col_over {S m : Nat} {e : Eqn} (h : EqOk S m e) {E : Int} (hc : ∀ c, Over (E : Rat) 40320 (col S e c)) : AllOver E e.fs ∧ AllOver E e.ps := by
  constructor
  · intro x hm
    obtain ⟨i, hi, rfl⟩ := List.mem_iff_getElem.1 hm
    have h1 := hc i
    rw [← h.fget (by rw [← h.fl]; exact hi), getD_lt _ _ hi] at h1
    exact ⟨h.fo _ hm, h1⟩
  · intro x hm
    obtain ⟨i, hi, rfl⟩ := List.mem_iff_getElem.1 hm
    have h1 := hc (S + i)
    unfold col at h1
    rw [if_neg (by omega), Nat.add_sub_cancel_left, getD_lt _ _ hi] at h1
    exact ⟨h.po _ hm, h1⟩
theorem how_bd {S m : Nat} {ls : List Led} (h : LOk S m ls) (h8 : ls.length ≤ 8) (a : Nat) : howB ls a = true := by
  obtain ⟨E, hE, hB, hO⟩ := h.whole h8
  unfold howB
  cases hx : howE ls a with
  | none => rfl
  | some l =>
    have hm : l ∈ ls := by
      unfold howE at hx
      cases hf : fndL ls a with
      | none => rw [hf] at hx; simp at hx
      | some i =>
        rw [hf] at hx
        unfold fndL at hf
        have hi := List.mem_of_find?_eq_some hf
        rw [List.mem_range] at hi
        simp only [getD_lt ls _ hi] at hx
        split at hx
        · simp at hx
        · simp only [Option.some.injEq] at hx
          subst hx
          exact List.getElem_mem hi
    obtain ⟨i1, _, _, _, i5, _⟩ := all_clr hE hB (col_over (h.wf l hm).1 (hO l hm)).2
    simp only []
    rw [i1, i5]; rfl
theorem mor_over {S m : Nat} {E : Int} {free : Nat} : ∀ (ls : List Led) (o : List Frc), (∀ l ∈ ls, EqOk S m l.e ∧ ∀ c, Over (E : Rat) 40320 (col S l.e c)) → free < S → AllOver E o → AllOver E (ls.foldl (morS free) o)
  | [], _, _, _, ho => ho
  | l :: r, o, hl, hf, ho => by
    obtain ⟨l1, l2⟩ := hl l (by simp)
    refine mor_over r _ (fun x hx => hl x (by simp [hx])) hf fun x hx => ?_
    unfold morS at hx
    rcases List.mem_or_eq_of_mem_set hx with hx | rfl
    · exact ho x hx
    · obtain ⟨k1, k2⟩ := subF_ok (intF_ok 0).1 (getD_ok l1.fo free)
      refine ⟨k1, ?_⟩
      rw [k2, (intF_ok 0).2, l1.fget hf]
      have h3 := (l2 free : IntB 40320 _).neg
      unfold Over
      have e : (((0 : Int) : Rat) - col S l.e free) * (E : Rat) = -(col S l.e free * (E : Rat)) := by
        have : ((0 : Int) : Rat) = 0 := rfl
        rw [this]; grind
      rw [e]; exact h3
theorem hid_lt {S m : Nat} {ls : List Led} (h : LOk S m ls) {a k : Nat} (ha : a < S) (hk : hidF ls a = some k) : k < S := by
  unfold hidF at hk
  cases hf : fndL ls a with
  | none => rw [hf] at hk; simp at hk; omega
  | some i =>
    rw [hf] at hk
    unfold fndL at hf
    have hi := List.mem_of_find?_eq_some hf
    rw [List.mem_range] at hi
    simp only [getD_lt ls _ hi] at hk
    unfold fndF at hk
    have h2 := List.mem_of_find?_eq_some hk
    rw [List.mem_range, (h.wf _ (List.getElem_mem hi)).1.fl] at h2
    exact h2
theorem hide_bd {S m : Nat} {ls : List Led} (h : LOk S m ls) (h8 : ls.length ≤ 8) {a : Nat} (ha : a < S) (h16 : S ≤ 16) : hideB ls S a = true := by
  obtain ⟨E, hE, hB, hO⟩ := h.whole h8
  unfold hideB
  cases hx : hidF ls a with
  | none => rfl
  | some k =>
    have hk := hid_lt h ha hx
    have hEb : IntB 40320 (E : Rat) := ⟨E, rfl, hB⟩
    have ho : AllOver E (digL (2 ^ k) S) := fun x hx => by
      obtain ⟨i, hi, rfl⟩ := List.mem_iff_getElem.1 hx
      have h1 := dig_get (2 ^ k) S i
      rw [getD_lt _ _ hi] at h1
      exact ⟨h1.1, (h1.2.intB.mul hEb).mono (by decide)⟩
    have hm : AllOver E (moreL ls S k) := mor_over ls _ (fun l hl => ⟨(h.wf l hl).1, hO l hl⟩) hk ho
    obtain ⟨i1, i2, i3, i4, i5, i6⟩ := all_clr hE hB hm
    have hmb : moreB ls S k = true := by
      unfold moreB
      rw [Bool.and_eq_true, Bool.and_eq_true, List.all_eq_true]
      refine ⟨⟨decide_eq_true h16, decide_eq_true (by omega)⟩, fun l hl => ?_⟩
      have hw := h.wf l hl
      rw [Bool.and_eq_true, Bool.and_eq_true]
      refine ⟨⟨decide_eq_true hw.2, decide_eq_true (by rw [hw.1.fl]; exact hk)⟩, ?_⟩
      exact hw.1.bdn (hO l hl) hEb (int_ne hE) (by decide) (by decide) hk
    simp only []
    rw [hmb, i1]
    unfold hidM
    split
    · rw [i6]; rfl
    · rw [i5]; rfl
end Go.Proofs.YtbkekdbabkncfaaGreat

namespace Go.Proofs.YtbkekdbabkncfaaGreat
open Go.RowKit Go.Maps Det

/-- An equation is what its parts make of the rows. -/
def Comb (S m : Nat) (R : Nat → Nat → Rat) (e : Eqn) : Prop := ∀ c, c < S → col S e c = sumR m fun i => col S e (S + i) * R i c
structure LMore (S m : Nat) (R : Nat → Nat → Rat) (rows : List (Nat → Rat)) (ls : List Led) : Prop where
  ok : LOk S m ls
  comb : ∀ l ∈ ls, Comb S m R l.e
  fst : ∀ l ∈ ls, ∀ c, c < l.at_ → col S l.e c = 0
  span : ∀ u ∈ rows, ∀ c, c < S → u c = sumR ls.length fun j => u (Pf ls j) * Lf S ls j c
theorem LMore.nil (S m : Nat) (R : Nat → Nat → Rat) : LMore S m R [] [] := ⟨LOk.nil S m, fun _ h => by simp at h, fun _ h => by simp at h, fun _ h => by simp at h⟩
theorem comb_wit {S m : Nat} {R : Nat → Nat → Rat} {e : Eqn} {l : Led} (h : EqOk S m e) (hl : EqOk S m l.e) (ha : l.at_ < S) (c1 : Comb S m R e) (c2 : Comb S m R l.e) : Comb S m R (witE e l) := fun c hc => by
  obtain ⟨_, hC⟩ := col_wit h hl ha
  rw [hC, c1 c hc, c2 c hc]
  have e1 : (sumR m fun i => col S (witE e l) (S + i) * R i c) = sumR m fun i => 1 * (col S e (S + i) * R i c) + (- col S e l.at_) * (col S l.e (S + i) * R i c) := sumR_congr fun i _ => by rw [hC]; grind
  rw [e1, sumR_lin]; grind
theorem comb_lead {S m : Nat} {R : Nat → Nat → Rat} {e : Eqn} (h : EqOk S m e) (he : empE e = false) (c1 : Comb S m R e) : Comb S m R (leadE e).e := fun c hc => by
  obtain ⟨_, _, _, _, hC⟩ := col_lead h he
  rw [hC, c1 c hc]
  have e1 : (sumR m fun i => col S (leadE e).e (S + i) * R i c) = sumR m fun i => (col S e (leadE e).at_)⁻¹ * (col S e (S + i) * R i c) + 0 * 0 := sumR_congr fun i _ => by rw [hC, Rat.div_def]; grind
  rw [e1, sumR_lin m _ 0 _ (fun _ => 0), Rat.div_def]; grind
theorem red_comb {S m : Nat} {R : Nat → Nat → Rat} : ∀ (suf : List Led) (x y : Eqn), (∀ l ∈ suf, (EqOk S m l.e ∧ l.at_ < S) ∧ Comb S m R l.e) → EqOk S m x → Comb S m R x → redE suf x = some y → Comb S m R y
  | [], x, y, _, _, hc, hy => by
    simp only [redE, Option.some.injEq] at hy
    rw [← hy]; exact hc
  | l :: r, x, y, hl, hx, hc, hy => by
    obtain ⟨⟨l1, l2⟩, l3⟩ := hl l (by simp)
    unfold redE at hy
    split at hy
    · exact absurd hy (by simp)
    · exact red_comb r _ y (fun z hz => hl z (by simp [hz])) (col_wit hx l1 l2).1 (comb_wit hx l1 l2 hc l3) hy
theorem emp_zero {S m : Nat} {e : Eqn} (h : EqOk S m e) (he : empE e = true) {c : Nat} (hc : c < S) : col S e c = 0 := by
  unfold empE at he
  cases hf : fndF e.fs 0 with
  | some _ => rw [hf] at he; simp at he
  | none =>
    unfold fndF at hf
    rw [List.find?_eq_none] at hf
    have h1 := hf c (by rw [List.mem_range, h.fl]; exact hc)
    rw [someF_ok (getD_ok h.fo c), h.fget hc] at h1
    simpa using h1
/-- Nothing is before the one who is led. -/
theorem lead_first {S m : Nat} {e : Eqn} (h : EqOk S m e) (he : empE e = false) {c : Nat} (hc : c < (leadE e).at_) : col S e c = 0 := by
  obtain ⟨_, hS, _⟩ := col_lead h he
  have ha : (leadE e).at_ = (fndF e.fs 0).getD 0 := rfl
  unfold empE at he
  cases hf : fndF e.fs 0 with
  | none => rw [hf] at he; simp at he
  | some i =>
    rw [hf] at ha
    simp only [Option.getD_some] at ha
    unfold fndF at hf
    rw [List.find?_range_eq_some] at hf
    have h1 := hf.2.2 c (by omega)
    rw [someF_ok (getD_ok h.fo c), h.fget (by omega)] at h1
    simpa using h1
theorem red_none {S m : Nat} {ls : List Led} (hw : ∀ l ∈ ls, EqOk S m l.e ∧ l.at_ < S) {e : Nat → Nat → Rat} (h : Inv ls.length e (Lf S ls) (Pf ls)) {v : Nat → Rat} :
    ∀ (suf pre : List Led) (x : Eqn), ls = pre ++ suf → EqOk S m x → (∀ c, col S x c = Det.part v (Lf S ls) (Pf ls) pre.length c) → redE suf x = none → ∃ k, k ≤ ls.length ∧ ∀ c, c < S → Det.part v (Lf S ls) (Pf ls) k c = 0
  | [], _, _, _, _, _, hy => by simp [redE] at hy
  | l :: r, pre, x, hs, hx, hc, hy => by
    have hlen : ls.length = pre.length + (r.length + 1) := by rw [hs]; simp
    have hk : pre.length < ls.length := by omega
    have hg : ls.getD pre.length dE = l := by
      rw [getD_lt _ _ hk]
      simp [hs]
    obtain ⟨hl, ha⟩ := hw l (by rw [hs]; simp)
    have eL : ∀ c, Lf S ls pre.length c = col S l.e c := fun c => by unfold Lf; rw [hg]
    have eP : Pf ls pre.length = l.at_ := by unfold Pf; rw [hg]
    have hat : col S x l.at_ = v l.at_ := by
      have := h.part_at v (k := pre.length) (j := pre.length) (by omega) hk
      rw [if_neg (Nat.lt_irrefl _), eP] at this
      rw [hc, this]
    obtain ⟨hE, hC⟩ := col_wit hx hl ha
    have hn : ∀ c, col S (witE x l) c = Det.part v (Lf S ls) (Pf ls) (pre.length + 1) c := fun c => by
      rw [hC, hc, hat, part_succ, eL, eP]
    unfold redE at hy
    split at hy
    · rename_i he
      exact ⟨pre.length + 1, by omega, fun c hcS => by rw [← hn]; exact emp_zero hE he hcS⟩
    · exact red_none hw h r (pre ++ [l]) (witE x l) (by rw [hs]; simp) hE (fun c => by rw [hn, List.length_append]; rfl) hy
theorem join_get {ls : List Led} {x : Led} : (∀ j, j < ls.length → (joinL ls x).getD j dE = ⟨witE (ls.getD j dE).e x, (ls.getD j dE).at_⟩) ∧ (joinL ls x).getD ls.length dE = x := by
  have hjl : (joinL ls x).length = ls.length + 1 := by unfold joinL; simp
  constructor
  · intro j hj
    rw [getD_lt _ _ (by omega : j < (joinL ls x).length), getD_lt _ _ hj]
    unfold joinL
    rw [List.getElem_append_left (by simpa using hj), List.getElem_map]
  · rw [getD_lt _ _ (by omega : ls.length < (joinL ls x).length)]
    unfold joinL
    rw [List.getElem_append_right (by simp)]
    simp
theorem more_ok {S m : Nat} {R : Nat → Nat → Rat} {rows : List (Nat → Rat)} {ls : List Led} (h : LMore S m R rows ls) (hr : ls.length ≤ 7) {x : Eqn} (hx : EqOk S m x) (hb : ∀ c, Bit (col S x c)) (hn : empE x = false) (hc : Comb S m R x) : LMore S m R (rows ++ [col S x]) (solS ls x) := by
  have hnew := (sol_ok h.ok hr hx hb hn).2
  obtain ⟨e, hi⟩ := h.ok.inv
  have hw := h.ok.wf
  have h0 : ∀ c, col S x c = Det.part (col S x) (Lf S ls) (Pf ls) 0 c := fun c => by
    show _ = col S x c - 0
    grind
  unfold solS at hnew ⊢
  cases hy : redE ls x with
  | none =>
    rw [hy] at hnew
    simp only [] at hnew ⊢
    obtain ⟨k, hk, hz⟩ := red_none hw hi ls [] x rfl hx h0 hy
    refine ⟨hnew, h.comb, h.fst, fun u hu c hcS => ?_⟩
    rw [List.mem_append, List.mem_singleton] at hu
    rcases hu with hu | rfl
    · exact h.span u hu c hcS
    · have hp : ∀ j, j < ls.length → Pf ls j < S := fun j hj => by
        unfold Pf; rw [getD_lt _ _ hj]; exact (hw _ (List.getElem_mem hj)).2
      -- what was taken away is all there is
      have hd : ∀ d, k + d ≤ ls.length → Det.part (col S x) (Lf S ls) (Pf ls) (k + d) c = 0 := by
        intro d
        induction d with
        | zero => intro _; exact hz c hcS
        | succ d ih =>
          intro hkd
          have h1 := hi.part_at (col S x) hk (j := k + d) (by omega)
          rw [if_neg (by omega), hz _ (hp (k + d) (by omega))] at h1
          rw [← Nat.add_assoc, part_succ, ih (by omega), ← h1]; grind
      have h2 := hd (ls.length - k) (by omega)
      rw [Nat.add_sub_cancel' hk] at h2
      unfold Det.part at h2
      grind
  | some y =>
    rw [hy] at hnew
    simp only [] at hnew ⊢
    obtain ⟨_, r2⟩ := red_ok hw hi hr hb ls [] x rfl hx h0
    obtain ⟨k1, k2, k3⟩ := r2 y hy
    obtain ⟨l1, l2, l3, l4, l5⟩ := col_lead k1 (k3 hn)
    have hcy := red_comb ls x y (fun l hl => ⟨hw l hl, h.comb l hl⟩) hx hc hy
    have hcl := comb_lead k1 (k3 hn) hcy
    have hfl : ∀ c, c < (leadE y).at_ → col S (leadE y).e c = 0 := fun c hc => by
      rw [l5, lead_first k1 (k3 hn) hc, Rat.div_def, Rat.zero_mul]
    have hl1 : col S (leadE y).e (leadE y).at_ = 1 := by rw [l5, Rat.div_def, Rat.mul_inv_cancel _ l4]
    have hjl : (joinL ls (leadE y)).length = ls.length + 1 := by unfold joinL; simp
    obtain ⟨j1, j2⟩ := join_get (ls := ls) (x := leadE y)
    refine ⟨hnew, fun l hl => ?_, fun l hl c hcl2 => ?_, fun u hu c hcS => ?_⟩
    · unfold joinL at hl
      rw [List.mem_append, List.mem_map, List.mem_singleton] at hl
      rcases hl with ⟨z, hz, rfl⟩ | rfl
      · exact comb_wit (hw z hz).1 l1 l2 (h.comb z hz) hcl
      · exact hcl
    · unfold joinL at hl
      rw [List.mem_append, List.mem_map, List.mem_singleton] at hl
      rcases hl with ⟨z, hz, rfl⟩ | rfl
      · show col S (witE z.e (leadE y)) c = 0
        have hcz : c < z.at_ := hcl2
        rw [(col_wit (hw z hz).1 l1 l2).2, h.fst z hz c hcz]
        by_cases hq : c < (leadE y).at_
        · rw [hfl c hq]; grind
        · rw [h.fst z hz (leadE y).at_ (by omega)]; grind
      · exact hfl c hcl2
    · -- rows that were in the span stay there
      have hstay : ∀ u : Nat → Rat, (∀ c, c < S → u c = (sumR ls.length fun j => u (Pf ls j) * Lf S ls j c) + (u (leadE y).at_ - sumR ls.length fun j => u (Pf ls j) * Lf S ls j (leadE y).at_) * col S (leadE y).e c) → ∀ c, c < S → u c = sumR (joinL ls (leadE y)).length fun j => u (Pf (joinL ls (leadE y)) j) * Lf S (joinL ls (leadE y)) j c := by
        intro u hu c hcS
        rw [hjl]
        show u c = (sumR ls.length fun j => u (Pf (joinL ls (leadE y)) j) * Lf S (joinL ls (leadE y)) j c) + u (Pf (joinL ls (leadE y)) ls.length) * Lf S (joinL ls (leadE y)) ls.length c
        have e1 : (sumR ls.length fun j => u (Pf (joinL ls (leadE y)) j) * Lf S (joinL ls (leadE y)) j c) = sumR ls.length fun j => 1 * (u (Pf ls j) * Lf S ls j c) + (- col S (leadE y).e c) * (u (Pf ls j) * Lf S ls j (leadE y).at_) := sumR_congr fun j hj => by
          have hwj := hw _ (by rw [getD_lt _ _ hj]; exact List.getElem_mem hj : ls.getD j dE ∈ ls)
          unfold Pf Lf
          rw [j1 j hj]
          show u _ * col S (witE (ls.getD j dE).e (leadE y)) c = _
          rw [(col_wit hwj.1 l1 l2).2]; grind
        have e2 : u (Pf (joinL ls (leadE y)) ls.length) * Lf S (joinL ls (leadE y)) ls.length c = u (leadE y).at_ * col S (leadE y).e c := by unfold Pf Lf; rw [j2]
        rw [e1, e2, sumR_lin, hu c hcS]; grind
      rw [List.mem_append, List.mem_singleton] at hu
      rcases hu with hu | rfl
      · refine hstay u (fun c hc => ?_) c hcS
        rw [← h.span u hu _ l2, ← h.span u hu c hc]; grind
      · refine hstay _ (fun c hc => ?_) c hcS
        have e3 : ∀ c, (sumR ls.length fun j => col S x (Pf ls j) * Lf S ls j c) = col S x c - col S y c := fun c => by rw [k2]; unfold Det.part; grind
        have e4 : col S y c = col S y (leadE y).at_ * col S (leadE y).e c := by
          rw [l5, Rat.div_def, ← Rat.mul_assoc, Rat.mul_comm (col S y (leadE y).at_), Rat.mul_assoc, Rat.mul_inv_cancel _ l4, Rat.mul_one]
        rw [e3, e3]
        grind
end Go.Proofs.YtbkekdbabkncfaaGreat
