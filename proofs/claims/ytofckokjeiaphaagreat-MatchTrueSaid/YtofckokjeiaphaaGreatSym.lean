/- How much two records agree is the same with both exchanged. -/
import Derived.Test.YtofckokjeiaphaaGreatCmp
namespace Go.Proofs.YtofckokjeiaphaaGreat
open Go.RowKit

theorem ifCongr {α : Type} {p q : Prop} [Decidable p] [Decidable q] (h : p ↔ q) {a b c d : α} (h1 : a = b) (h2 : c = d) : (if p then a else c) = if q then b else d := by
  subst h1 h2
  by_cases hp : p
  · rw [if_pos hp, if_pos (h.1 hp)]
  · rw [if_neg hp, if_neg (fun hq => hp (h.2 hq))]

theorem headB_comm (a b : ByteArray) : headB a b = headB b a := by
  unfold headB; exact decide_eq_decide.2 ⟨fun h => h.symm, fun h => h.symm⟩
theorem sameW_comm (a b : ByteArray) : sameW a b = sameW b a := by
  unfold sameW
  rw [headB_comm a b, show (a.toList == b.toList) = (b.toList == a.toList) from BEq.comm, Bool.or_assoc, Bool.or_assoc, Bool.or_comm (decide (a.size = 1) && headB b a)]

theorem subs_short (fit : ByteArray → ByteArray → Bool) : ∀ (m l : List ByteArray), m.length < l.length → subs fit l m = false
  | _, [], h => by simp at h
  | [], _ :: _, _ => rfl
  | y :: m, x :: l, h => by
    simp only [List.length_cons] at h
    rw [subs]
    split
    · exact subs_short fit m l (by omega)
    · exact subs_short fit m (x :: l) (by simp; omega)
theorem subs_even (fit : ByteArray → ByteArray → Bool) : ∀ (l m : List ByteArray), l.length = m.length → subs fit l m = (l.zip m).all fun p => fit p.1 p.2
  | [], [], _ => rfl
  | x :: l, y :: m, h => by
    simp only [List.length_cons, Nat.add_right_cancel_iff] at h
    rw [subs, List.zip_cons_cons, List.all_cons]
    by_cases hf : fit x y = true
    · rw [if_pos hf, hf, Bool.true_and]; exact subs_even fit l m h
    · rw [if_neg hf, subs_short fit m (x :: l) (by simp; omega)]
      simp at hf; simp [hf]
theorem zip_all_comm (fit : ByteArray → ByteArray → Bool) (hc : ∀ x y, fit x y = fit y x) : ∀ (l m : List ByteArray), ((l.zip m).all fun p => fit p.1 p.2) = (m.zip l).all fun p => fit p.1 p.2
  | [], [] => rfl
  | [], _ :: _ => rfl
  | _ :: _, [] => rfl
  | x :: l, y :: m => by simp only [List.zip_cons_cons, List.all_cons]; rw [hc x y, zip_all_comm fit hc l m]
theorem subs_comm (fit : ByteArray → ByteArray → Bool) (hc : ∀ x y, fit x y = fit y x) (l m : List ByteArray) (h : l.length = m.length) : subs fit l m = subs fit m l := by
  rw [subs_even fit l m h, subs_even fit m l h.symm, zip_all_comm fit hc]

theorem fitL_comm (n : Int) (x y : ByteArray) : fitL n x y = fitL n y x := by
  unfold fitL; rw [sameW_comm x y, lev_comm]
theorem namesF_comm (n : Int) (l m : List ByteArray) (h : l.length = m.length) : namesF n l m = namesF n m l := by
  have ht : l.tail.length = m.tail.length := by simp [h]
  unfold namesF
  rw [subs_comm _ (fitL_comm _) l.tail m.tail ht, subs_comm _ (fitL_comm n) l.tail m.tail ht, lev_comm]
  exact ifCongr (and_congr ⟨fun e => e.symm, fun e => e.symm⟩ Iff.rfl) rfl rfl
theorem namesS_comm (n : Int) (l m : List ByteArray) : namesS n l m = namesS n m l := by
  unfold namesS
  by_cases h1 : m.length < l.length
  · rw [if_pos h1, if_neg (by omega)]
  · by_cases h2 : l.length < m.length
    · rw [if_neg h1, if_pos h2]
    · rw [if_neg h1, if_neg h2]; exact namesF_comm n l m (by omega)
theorem diffs_comm (a b : ByteArray) (k : Nat) : diffs a b k = diffs b a k := by
  unfold diffs
  congr 1
  apply List.filter_congr
  intro i _
  exact decide_eq_decide.2 ⟨fun h e => h e.symm, fun h e => h e.symm⟩
theorem numS_comm (n : Int) (a b : ByteArray) : numS n a b = numS n b a := by
  unfold numS
  rw [diffs_comm a b]
  exact ifCongr ⟨Or.symm, Or.symm⟩ rfl rfl
theorem birS_comm (n a b c d : Int) : birS n a b c d = birS n c d a b := by
  unfold birS
  exact ifCongr ⟨fun h => by omega, fun h => by omega⟩ rfl (ifCongr ⟨And.symm, And.symm⟩ rfl rfl)
theorem common_comm (s t : Stay) : common s t = common t s := by
  unfold common
  split <;> split <;> split <;> split <;> omega
theorem meetB_comm (n : Int) (s t : Stay) : meetB n s t = meetB n t s := by
  unfold meetB
  rw [common_comm, show (decide (s.p = t.p)) = decide (t.p = s.p) from decide_eq_decide.2 ⟨fun h => h.symm, fun h => h.symm⟩]
theorem placesF_comm (n : Int) (l m : List Stay) : placesF n l m = placesF n m l := by
  have : placesB n l m = placesB n m l := by
    unfold placesB
    rw [Bool.eq_iff_iff]
    simp only [List.any_eq_true]
    constructor
    · rintro ⟨s, hs, t, ht, h⟩; exact ⟨t, ht, s, hs, meetB_comm n s t ▸ h⟩
    · rintro ⟨s, hs, t, ht, h⟩; exact ⟨t, ht, s, hs, meetB_comm n s t ▸ h⟩
  unfold placesF; rw [this]
theorem oneF_comm (n k b p sa sb : Int) (ta tb : Bool) : oneF n k b p sa sb ta tb = oneF n k b p sb sa tb ta := by
  unfold oneF
  refine ifCongr (or_congr Iff.rfl (or_congr ⟨fun ⟨h1, h2, h3⟩ => ⟨h2, h1, fun e => h3 e.symm⟩, fun ⟨h1, h2, h3⟩ => ⟨h2, h1, fun e => h3 e.symm⟩⟩ (or_congr Iff.rfl (or_congr Iff.rfl (and_congr ⟨Or.symm, Or.symm⟩ Iff.rfl))))) rfl ?_
  exact ifCongr (or_congr Iff.rfl (and_congr Iff.rfl (and_congr Iff.rfl (and_congr Iff.rfl ⟨And.symm, And.symm⟩)))) rfl rfl
theorem matF_comm (u : Rul) (r s : Rec) : matF u r s = matF u s r := by
  unfold matF
  simp only
  rw [namesS_comm u.l r.names, numS_comm u.d r.num, birS_comm u.y r.lo, placesF_comm u.t r.stays, oneF_comm]
theorem cmpE_comm (u : Rul) (r s : Rec) : cmpE u r s = cmpE u s r := by
  unfold cmpE
  exact ifCongr Iff.rfl rfl (ifCongr ⟨Or.symm, Or.symm⟩ rfl rfl)
theorem cmpM_comm (u : Rul) (r s : Rec) : cmpM u r s = cmpM u s r := by
  unfold cmpM
  rw [cmpE_comm, matF_comm]

end Go.Proofs.YtofckokjeiaphaaGreat
