/- What is told of the chapter's people. -/
import Derived.Test.YtofckokjeiaphaaGreatAliveP
namespace Go.Proofs.YtofckokjeiaphaaGreat
open Go.RowKit

/-- The distance, by a bound on the steps. -/
def DF (a b : List UInt8) : Nat → Nat → Nat → Nat
  | 0, _, _ => 0
  | _ + 1, 0, j => j
  | _ + 1, i + 1, 0 => i + 1
  | n + 1, i + 1, j + 1 => min (DF a b n i j + sub a b i j) (min (DF a b n i (j + 1) + 1) (DF a b n (i + 1) j + 1))
theorem DF_eq (a b : List UInt8) : ∀ n i j, i + j < n → DF a b n i j = D a b i j
  | 0, _, _, h => by omega
  | n + 1, 0, j, _ => (D_zero a b j).symm
  | n + 1, i + 1, 0, _ => (D_left a b (i + 1)).symm
  | n + 1, i + 1, j + 1, h => by
    rw [D_succ, ← DF_eq a b n i j (by omega), ← DF_eq a b n i (j + 1) (by omega), ← DF_eq a b n (i + 1) j (by omega)]
    rfl
theorem levF (a b : List UInt8) : lev a b = DF a b (a.length + b.length + 1) a.length b.length := (DF_eq a b _ _ _ (by omega)).symm
theorem levC1 : lev wSMYTH.data.toList wSMITH.data.toList = 1 := by rw [levF]; decide +kernel
theorem levC2 : lev wSMITH.data.toList [83, 77, 89, 84, 72, 69] = 2 := by rw [levF]; decide +kernel
theorem edC : edN wSMITH { data := #[83, 77, 89, 84, 72, 69] } = 2 ∧ edE wSMITH { data := #[83, 77, 89, 84, 72, 69] } = 0 := by
  refine ⟨?_, by decide +kernel⟩
  rw [edN, if_pos (by decide +kernel)]
  show ((lev wSMITH.data.toList [83, 77, 89, 84, 72, 69] : Nat) : Int) = 2
  rw [levC2]; rfl
theorem namesC2 : namesS 2 recC1.names recC2.names = 2 := by
  rw [namesS, if_pos (by decide +kernel), namesF_B _ _ _ (by decide +kernel) (by decide +kernel)]
  show namesV wSMYTH wSMITH _ _ (lev wSMYTH.data.toList wSMITH.data.toList) 2 = 2
  rw [levC1]; decide +kernel
theorem namesC23 : namesS 2 recC2.names recC3.names = 2 := by
  rw [namesS, if_neg (by decide +kernel), namesF_B _ _ _ (by decide +kernel) (by decide +kernel)]
  show namesV wSMYTH wSMITH _ _ (lev wSMYTH.data.toList wSMITH.data.toList) 2 = 2
  rw [levC1]; decide +kernel
theorem matC2 : matF rulC recC1 recC2 = ⟨2, 2, 3, 3, 1⟩ := by
  unfold matF
  rw [show rulC.l = 2 from rfl, namesC2]; decide +kernel
theorem matC23 : matF rulC recC2 recC3 = ⟨2, 1, 3, 3, 1⟩ := by
  unfold matF
  rw [show rulC.l = 2 from rfl, namesC23]; decide +kernel
theorem cmpC2 : cmpM rulC recC1 recC2 = ⟨2, 2, 3, 3, 1⟩ ∧ cmpE rulC recC1 recC2 = 0 := by
  have h : cmpE rulC recC1 recC2 = 0 := by decide +kernel
  exact ⟨(cmpM_good h).trans matC2, h⟩
theorem cmpC3 : cmpM rulC recC1 recC3 = ⟨3, 1, 3, 3, 2⟩ ∧ cmpE rulC recC1 recC3 = 0 := by decide +kernel
theorem matC3 : matF rulC recC1 recC3 = ⟨3, 1, 3, 3, 2⟩ := by decide +kernel
theorem cmpC4 : cmpM rulC recC1 recC4 = ⟨3, 1, 0, 3, 0⟩ ∧ cmpE rulC recC1 recC4 = 0 := by decide +kernel
theorem sortC {l : List Rec} (hs : l.Pairwise fun x y => x.id ≤ y.id) (hn : (l.map Rec.id).Nodup) : sortR l = l := (sorted_eq (List.Perm.refl l) hs hn).symm
theorem pairC : pairsE rulC [recC1, recC2, recC3] = 0 ∧ pairsV rulC 2 [recC1, recC2, recC3] = [(1, 3)] ∧ pairsV rulC 1 [recC1, recC2, recC3] = [(1, 2), (2, 3)] := by
  have hE : pairsE rulC [recC1, recC2, recC3] = 0 := by decide +kernel
  have hS : sortR [recC1, recC2, recC3] = [recC1, recC2, recC3] := sortC (by decide +kernel) (by decide +kernel)
  have i1 : recC1.id = 1 := rfl
  have i2 : recC2.id = 2 := rfl
  have i3 : recC3.id = 3 := rfl
  refine ⟨hE, ?_, ?_⟩
  · rw [pairsV, if_pos hE, hS]
    simp [pairTo, pairRow, List.range_succ, matC2, matC3, matC23, i1, i2, i3, List.filter_cons]
  · rw [pairsV, if_pos hE, hS]
    simp [pairTo, pairRow, List.range_succ, matC2, matC3, matC23, i1, i2, i3, List.filter_cons]
theorem homeC : homesE 185 peopleC = 0 ∧ homesV 185 peopleC = [[1, 2, 3, 4]] := by
  have hE : homesE 185 peopleC = 0 := by decide +kernel
  have hS : sortR peopleC = peopleC := sortC (by decide +kernel) (by decide +kernel)
  refine ⟨hE, ?_⟩
  rw [homesV, if_pos hE, hS]
  have hP : placesL 185 peopleC = [7] := by
    rw [← placesL_eq (ks := [7]) (day := 185) (l := peopleC) (by decide) (fun p => ?_)]
    · simp
    · by_cases hp : p = 7
      · subst hp; decide +kernel
      · by_cases hp8 : p = 8
        · subst hp8; decide +kernel
        · have e : idsAt 185 p peopleC = [] := by
            simp [idsAt, peopleC, recC1, recC2, recC3, recC4, recC5, atB, ofP, Ne.symm hp, Ne.symm hp8]
          rw [e]; simp [hp]
  rw [homesL, hP]; decide +kernel

end Go.Proofs.YtofckokjeiaphaaGreat
