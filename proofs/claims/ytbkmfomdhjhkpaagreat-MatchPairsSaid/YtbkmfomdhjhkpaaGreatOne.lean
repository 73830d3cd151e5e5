/- What the questions tell is what the reference tells; a map's rows are kept. -/
import Derived.Test.YtbkmfomdhjhkpaaGreatDecide
import Derived.Test.YtbkmfomdhjhkpaaGreatPerson
import Derived.Test.YtbkmfomdhjhkpaaGreatCompr
namespace Go.Proofs.YtbkmfomdhjhkpaaGreat
open Go.RowKit Go.Maps

theorem namesF_vals (n : Int) (l m : List ByteArray) : namesF n l m = 0 ∨ namesF n l m = 2 ∨ namesF n l m = 3 := by
  unfold namesF; split
  · exact .inr (.inr rfl)
  · split
    · exact .inr (.inl rfl)
    · exact .inl rfl
theorem namesS_vals (n : Int) (l m : List ByteArray) : namesS n l m = 0 ∨ namesS n l m = 2 ∨ namesS n l m = 3 := by
  unfold namesS; split <;> exact namesF_vals _ _ _

theorem decided_one (n k b p : Int) (r s : Rec) (hn : n = 0 ∨ n = 2 ∨ n = 3) (h1 : 0 ≤ r.suf ∧ r.suf ≤ 2) (h2 : 0 ≤ s.suf ∧ s.suf ≤ 2) : decided ⟨n, k, b, p, 0⟩ r s = oneF n k b p r.suf s.suf r.twin s.twin := by
  have e1 : ((r.suf = 1 ∧ s.suf = 2) ∨ (r.suf = 2 ∧ s.suf = 1)) ↔ (r.suf ≠ 0 ∧ s.suf ≠ 0 ∧ r.suf ≠ s.suf) := by omega
  have e2 : (k = 3 ∧ (n = 3 ∨ n = 2)) ↔ (k = 3 ∧ 2 ≤ n) := by omega
  simp only [decided, toldBy, asked, Bool.and_eq_true, Bool.or_eq_true, decide_eq_true_eq, Bool.not_eq_true', e1, e2, oneF, and_assoc]
  by_cases c1 : b = 0
  · simp [c1, told]
  by_cases c2 : r.suf ≠ 0 ∧ s.suf ≠ 0 ∧ r.suf ≠ s.suf
  · rw [if_neg c1, if_pos c2, if_pos (.inr (.inl c2))]; rfl
  by_cases c3 : n = 0 ∧ k ≠ 3
  · rw [if_neg c1, if_neg c2, if_pos c3, if_pos (.inr (.inr (.inl c3)))]; rfl
  by_cases c4 : k = 0 ∧ p ≠ 3
  · rw [if_neg c1, if_neg c2, if_neg c3, if_pos c4, if_pos (.inr (.inr (.inr (.inl c4))))]; rfl
  by_cases c5 : (r.twin = true ∨ s.twin = true) ∧ k ≠ 3 ∧ n ≠ 3
  · rw [if_neg c1, if_neg c2, if_neg c3, if_neg c4, if_pos c5, if_pos (.inr (.inr (.inr (.inr c5))))]; rfl
  have hno : ¬ (b = 0 ∨ r.suf ≠ 0 ∧ s.suf ≠ 0 ∧ r.suf ≠ s.suf ∨ n = 0 ∧ k ≠ 3 ∨ k = 0 ∧ p ≠ 3 ∨ (r.twin = true ∨ s.twin = true) ∧ k ≠ 3 ∧ n ≠ 3) := by
    rintro (h | h | h | h | h)
    · exact c1 h
    · exact c2 h
    · exact c3 h
    · exact c4 h
    · exact c5 h
  rw [if_neg c1, if_neg c2, if_neg c3, if_neg c4, if_neg c5, if_neg hno]
  by_cases c6 : k = 3 ∧ 2 ≤ n
  · rw [if_pos c6, if_pos (.inl c6)]; rfl
  by_cases c7 : n = 3 ∧ b = 3 ∧ p = 3 ∧ r.twin = false ∧ s.twin = false
  · rw [if_neg c6, if_pos c7, if_pos (.inr c7)]; rfl
  · rw [if_neg c6, if_neg c7, if_neg (fun h => h.elim c6 c7)]

theorem Groups.below {w W : World} {B base m n : Nat} {l : List Stay} {G : Lit → Option Value} (h : Groups w base m l n G) (hb : Below B w W) (hB : w.heap.size ≤ B) : Groups W base m l n G :=
  ⟨h.map.below hb (Nat.lt_of_lt_of_le h.map.lt hB), fun p => by
    obtain ⟨h1, h2⟩ := h.row p
    refine ⟨h1, ?_⟩
    rcases h2 with h2 | ⟨g, cap, cur, hv, hg, hh, rest⟩
    · exact .inl h2
    · exact .inr ⟨g, cap, cur, hv, hg, (hb.block g (Nat.lt_of_lt_of_le (Array.getElem?_eq_some_iff.1 hh).1 hB)).trans hh, rest⟩, h.far, h.low⟩
theorem ByPlace.below {w W : World} {B m : Nat} {l : List Stay} (h : ByPlace w m l) (hb : Below B w W) (hB : w.heap.size ≤ B) : ByPlace W m l := by
  obtain ⟨G, n, base, hn, hG⟩ := h
  exact ⟨G, n, base, hn, hG.below hb hB⟩
theorem ByPlace.late {w0 W : World} {g m : Nat} {R : Prop} {l : List Stay} (h : ByPlace w0 m l) (hg : w0.heap.size ≤ g) (hb : Below g w0 W ∧ R) : ByPlace W m l := h.below hb.1 hg

end Go.Proofs.YtbkmfomdhjhkpaaGreat
