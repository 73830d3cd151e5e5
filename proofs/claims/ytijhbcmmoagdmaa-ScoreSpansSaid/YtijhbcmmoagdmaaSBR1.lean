/- A number put in order, by the reference. Written by a program. -/
import Derived.Test.YtijhbcmmoagdmaaSBDat
import Derived.Test.YtijhbcmmoagdmaaSTwA
import Derived.Test.YtijhbcmmoagdmaaSRef6

namespace Go.Proofs.Ytijhbcmmoagdmaa
open Go.RowKit Go.Maps

theorem putI_at : ∀ (l : List Int) (n : Int) (i : Nat), i ≤ l.length → (∀ j (h : j < l.length), j < i → l[j] < n) → (∀ h : i < l.length, n < l[i]) → putI l n = l.take i ++ n :: l.drop i
  | [], n, i, hi, _, _ => by obtain rfl : i = 0 := by simpa using hi
                             rfl
  | x :: r, n, 0, _, _, h2 => by
    have h3 := h2 (by simp)
    simp only [List.getElem_cons_zero] at h3
    simp only [putI, List.take_zero, List.drop_zero, List.nil_append]
    rw [if_neg (by omega), if_neg (by omega)]
  | x :: r, n, i + 1, hi, h1, h2 => by
    have h3 := h1 0 (by simp) (by omega)
    simp only [List.getElem_cons_zero] at h3
    simp only [putI, List.take_succ_cons, List.drop_succ_cons, List.cons_append]
    rw [if_pos h3, putI_at r n i (by simpa using hi) (fun j h hj => by have := h1 (j + 1) (by simpa using h) (by omega); simpa using this) (fun h => by have := h2 (by simpa using h); simpa using this)]
theorem putI_has : ∀ (l : List Int) (n : Int) (i : Nat) (hi : i < l.length), (∀ j (h : j < l.length), j < i → l[j] < n) → l[i] = n → putI l n = l
  | x :: r, n, 0, _, _, h2 => by
    simp only [List.getElem_cons_zero] at h2
    simp only [putI]
    rw [if_neg (by omega), if_pos h2]
  | x :: r, n, i + 1, hi, h1, h2 => by
    have h3 := h1 0 (by simp) (by omega)
    simp only [List.getElem_cons_zero] at h3
    simp only [putI]
    rw [if_pos h3, putI_has r n i (by simpa using hi) (fun j h hj => by have := h1 (j + 1) (by simpa using h) (by omega); simpa using this) (by simpa using h2)]
theorem ints_take {w : World} {A : Option Addr} {l : List Int} (h : IntsAt w w.heap.size A l) (i : Nat) : IntsAt w w.heap.size A (l.take i) := fun k hk => by
  obtain ⟨b, off, e, h1, h2⟩ := h k (by rw [List.length_take] at hk; omega)
  exact ⟨b, off, e, h1, fun j hj => by rw [h2 j hj, List.getElem_take]⟩
theorem ints_drop {w : World} {b off : Nat} {l : List Int} (h : IntsAt w w.heap.size (some ⟨b, off, none⟩) l) (i : Nat) : IntsAt w w.heap.size (some ⟨b, off + i, none⟩) (l.drop i) := fun k hk => by
  obtain ⟨b', off', e, h1, h2⟩ := h (i + k) (by rw [List.length_drop] at hk; omega)
  cases e
  refine ⟨b, off + i, rfl, h1, fun j hj => ?_⟩
  have := h2 j hj
  rw [List.getElem_drop, ← this]
  congr 2
  omega
theorem ints_end {w : World} {A : Option Addr} {l : List Int} (_ : IntsAt w w.heap.size A l) (i : Nat) (hi : l.length ≤ i) : IntsAt w w.heap.size A (l.drop i) := by
  rw [List.drop_eq_nil_of_le hi]; exact Flat.nil _ _ _ _ _
theorem int_ones {n : Int} : ∀ u ∈ [Value.int .i64 n], u.oneCell' = true := fun u hu => by rw [List.mem_singleton] at hu; subst hu; rfl
theorem int_blk {w : World} {g : Nat} {n : Int} {t : TypeId} (h : Blk w g #[.int .i64 n] t) : ∀ j u, [Value.int .i64 n][j]? = some u → w.cell? ((⟨g, 0, none⟩ : Addr).add j) = some u := fun j u hj => by
  rw [WideShapes.add_plain, Nat.zero_add]
  exact (h.cell j).trans (by simpa using hj)
theorem int_newB (w : World) (n : Int) (t : TypeId) : ∀ j u, [Value.int .i64 n][j]? = some u → (w.alloc (.cells #[.int .i64 n] t)).cell? ((⟨w.heap.size, 0, none⟩ : Addr).add j) = some u := int_blk (Blk.new w _ t)
theorem own_cap {w : World} {base : Nat} {e : TypeId} {size n c : Nat} {A : Option Addr} {xs : List Value} (h : w.ownsRow base e size (.slice A n c) n xs) : n ≤ c := by
  rcases h.2 with ⟨e1, e2⟩ | ⟨g, cap, cur, e1, _, _, h2, _⟩
  · omega
  · injection e1 with _ _ e3; omega

/-- The numbers with one put in order. -/
def PutS (w : World) (A : Option Addr) (l : List Int) (e : Ending) (w' : World) : Prop :=
  ∃ A' c', e = .returned (.slice A' l.length c') ∧ IntsAt w' w'.heap.size A' l ∧ l.length ≤ c' ∧ Below w.heap.size w w' ∧ (A' = A ∨ ∀ ad, A' = some ad → w.heap.size ≤ ad.block)
theorem own_new {w : World} {base : Nat} {e : TypeId} {size n c : Nat} {A : Option Addr} {xs : List Value} (h : w.ownsRow base e size (.slice A n c) n xs) : ∀ ad, A = some ad → base ≤ ad.block := fun ad hA => by
  rcases h.2 with ⟨e1, _⟩ | ⟨g, cap, cur, e1, h1, _⟩
  · injection e1 with e2; rw [e2] at hA; cases hA
  · injection e1 with e2; rw [e2] at hA; cases hA; exact h1
theorem put_end {w w' : World} {l : List Int} {n : Int} {i : Nat} {A A0 : Option Addr} {c : Nat} (hv : putI l n = l.take i ++ n :: l.drop i) (hi : i ≤ l.length) (h : w'.ownsRow w.heap.size 3 1 (.slice A (i + 1 + (l.length - i)) c) (i + 1 + (l.length - i)) (((l.take i).flatMap intC ++ [.int .i64 n]) ++ (l.drop i).flatMap intC)) (hb : Below w.heap.size w w') : PutS w A0 (putI l n) (.returned (.slice A (i + 1 + (l.length - i)) c)) w' := by
  have e1 : (putI l n).length = i + 1 + (l.length - i) := by rw [hv]; simp only [List.length_append, List.length_cons, List.length_take, List.length_drop]; omega
  have e2 : (putI l n).flatMap intC = ((l.take i).flatMap intC ++ [.int .i64 n]) ++ (l.drop i).flatMap intC := by rw [hv]; simp [intC]
  rw [← e1, ← e2] at h
  refine ⟨A, c, by rw [e1], ?_, own_cap h, hb, .inr (own_new h)⟩
  exact (FlatP.of_own (P := fun _ => True) intC_len (by decide) h (fun _ _ _ _ => trivial)).flat

theorem put_end0 {w w' : World} {l : List Int} {n : Int} {i : Nat} {A A0 : Option Addr} {c : Nat} (hv : putI l n = l.take i ++ n :: l.drop i) (hi : i = l.length) (h : w'.ownsRow w.heap.size 3 1 (.slice A (i + 1) c) (i + 1) ((l.take i).flatMap intC ++ [.int .i64 n])) (hb : Below w.heap.size w w') : PutS w A0 (putI l n) (.returned (.slice A (i + 1) c)) w' := by
  have e1 : (putI l n).length = i + 1 := by rw [hv]; simp only [List.length_append, List.length_cons, List.length_take, List.length_drop]; omega
  have e2 : (putI l n).flatMap intC = (l.take i).flatMap intC ++ [.int .i64 n] := by rw [hv, List.drop_eq_nil_of_le (by omega)]; simp [intC]
  rw [← e1, ← e2] at h
  refine ⟨A, c, by rw [e1], ?_, own_cap h, hb, .inr (own_new h)⟩
  exact (FlatP.of_own (P := fun _ => True) intC_len (by decide) h (fun _ _ _ _ => trivial)).flat

set_option maxRecDepth 100000 in
set_option maxHeartbeats 8000000 in
theorem put6_any (l : List Int) (n : Int) (A : Option Addr) (a : Nat) (w : World) (h : IntsAt w w.heap.size A l) (hne : l ≠ []) (hl : l.length ≤ 100000) (ha : l.length ≤ a) :
    Calls Try.prog 53 #[.slice A l.length a, .int .i64 n] w (PutS w A (putI l n)) := by
  obtain ⟨i0, hi0, hz0, hz1, hz2⟩ := info_parts intInfo
  obtain ⟨b, off, rfl, hb, h0⟩ := ints_at h (List.length_pos_iff.2 hne)
  have hC : Hid (∀ k (hk : k < l.length), w.cell? ⟨b, off + k, none⟩ = some (.int .i64 l[k])) := Lib.hid (fun k hk => by obtain ⟨b', off', e, _, h2⟩ := ints_at h hk; cases e; exact h2)
  have LIT := Lib.hid (trivial : True)
  clear h0 hne
  go_enter Try.func53, Try.ntmps53
  go_wp2_with fail
  go_loopw [5] (fun ii wr => ∃ i : Nat, i ≤ l.length ∧ ii = .int .i64 i ∧ Hid (∀ j (h : j < l.length), j < i → l[j] < n) ∧ w = wr) (fun ii _ => l.length - (vInt ii).toNat)
  case atStart => exact ⟨0, Nat.zero_le _, rfl, Lib.hid (fun j _ hj => absurd hj (Nat.not_lt_zero _)), rfl⟩
  case round =>
    obtain ⟨i, hi, rfl, hN, rfl⟩ := hrel
    by_cases hlt : i < l.length
    · have hil : (i : Int) < (l.length : Int) := by omega
      have c0 := hC.out i hlt
      have HL : Hid (∀ y, y = l[i] → ∀ j (h : j < l.length), j < i + 1 → y < n → l[j] < n) := Lib.hid (fun y hy j h hj hyn => by
        rcases Nat.lt_or_ge j i with hji | hji
        · exact hN.out j h hji
        · obtain rfl : j = i := by omega
          omega)
      have HE : Hid (l[i] = n → putI l n = l) := Lib.hid (putI_has l n i hlt hN.out)
      have HP : Hid (n < l[i] → putI l n = l.take i ++ n :: l.drop i) := Lib.hid (fun hn => putI_at l n i hi hN.out (fun _ => hn))
      obtain ⟨y, hy⟩ : ∃ y, y = l[i] := ⟨_, rfl⟩
      have HY := Lib.hid (HL.out y hy)
      rw [← hy] at c0 HE HP
      clear HL hy
      by_cases hyn : y < n
      · have HJ : Hid (∀ j (h : j < l.length), j < i + 1 → l[j] < n) := Lib.hid (fun j h hj => HY.out j h hj hyn)
        clear HY HE HP hN
        go_wp2_with fail
        go_roundw
        case rel => exact ⟨i + 1, by omega, by go_num, HJ, by first | rfl | trivial⟩
        case measure => simp [vInt]; omega
      · clear HY hN
        by_cases hye : y = n
        · have HV := Lib.hid (HE.out hye)
          have hyb : (y == n) = true := by simp [hye]
          clear HE HP
          go_wp2_with fail
          go_ret
          exact ⟨some ⟨b, off, none⟩, a, by rw [HV.out]; rfl, by rw [HV.out]; exact h, by rw [HV.out]; exact ha, Below.refl _ _, .inl rfl⟩
        · have hyb : (y == n) = false := by simpa using hye
          have hai : ¬ a = i := by omega
          have HV : Hid (putI l n = l.take i ++ n :: l.drop i) := Lib.hid (HP.out (by omega))
          have HT := Lib.hid (ints_take h i)
          have HDr := Lib.hid (ints_drop h i)
          have hia : i ≤ a := by omega
          have D1 : Below w.heap.size w ((w.alloc (.cells #[] 3)).drew) := ((Below.refl _ _).alloc (Nat.le_refl _) _).drew
          have D2 : Below w.heap.size w (((w.alloc (.cells #[] 3)).alloc (.cells #[.int .i64 n] 3)).drew) := (((Below.refl _ _).alloc (Nat.le_refl _) _).alloc (by simp) _).drew
          have D3 : Below w.heap.size w (((w.alloc (.cells #[.int .i64 n] 3)).alloc (.cells #[] 3)).drew) := (((Below.refl _ _).alloc (Nat.le_refl _) _).alloc (by simp) _).drew
          have hE1 := own_drew (own_empty w 3 1 w.heap.size (Nat.le_refl _))
          have hE2 := own_drew (own_below (own_empty w 3 1 w.heap.size (Nat.le_refl _)) ((Below.refl _ _).alloc (Nat.le_refl _) (.cells #[.int .i64 n] 3)))
          have hE3 := own_drew (own_empty (w.alloc (.cells #[.int .i64 n] 3)) 3 1 w.heap.size (by simp))
          rw [World.size_alloc] at hE3
          go_upto_region 6 with fail
          clear h hC LIT
          go_region_law (first
          | (refine step_append_src (by rfl) _ _ _ (by rfl) w.heap.size 3 i0 _ 1 8 Try.underlying26 hi0 hz0 hz1 hz2 rfl (by decide) _ 0 [] (by rfl) hE1 (some ⟨b, off, none⟩) i a ((l.take i).flatMap intC) (by rfl) (by rw [flat_len intC_len, List.length_take]; omega) (fun e => by cases e) (Flat.news intC_len (by decide) (HT.out.later D1)) (flat_ones intC_one _) (by unfold maxLen; omega) (by omega) (by first | (simp; done) | (simp; omega)) ?_; intro v8 w8 hown8 hg8 ho8; rw [Nat.zero_add, List.nil_append] at hown8; obtain ⟨A8, c8, rfl⟩ := own_slice hown8; have b8 : Below w.heap.size w w8 := D1.grown hg8 (by first | (simp; done) | (simp; omega)) (fun k e => (hE1.lt k e).1))
          | (refine step_append_src (by rfl) _ _ _ (by rfl) w.heap.size 3 i0 _ 1 8 Try.underlying26 hi0 hz0 hz1 hz2 rfl (by decide) _ 0 [] (by rfl) hE2 (some ⟨b, off, none⟩) i a ((l.take i).flatMap intC) (by rfl) (by rw [flat_len intC_len, List.length_take]; omega) (fun e => by cases e) (Flat.news intC_len (by decide) (HT.out.later D2)) (flat_ones intC_one _) (by unfold maxLen; omega) (by omega) (by first | (simp; done) | (simp; omega)) ?_; intro v8 w8 hown8 hg8 ho8; rw [Nat.zero_add, List.nil_append] at hown8; obtain ⟨A8, c8, rfl⟩ := own_slice hown8; have b8 : Below w.heap.size w w8 := D2.grown hg8 (by first | (simp; done) | (simp; omega)) (fun k e => (hE2.lt k e).1); have k8 := (newAt' (w.alloc (.cells #[] 3)) #[.int .i64 n] 3 (g := w.heap.size + 1) (by simp)).drew.grown hg8 (fun e => by have e2 := Option.some.inj e; dsimp only at e2; omega); have gn8 : (w.heap.size + 1, (0 : Nat)) = (w.heap.size + 1, 0) := rfl)
          | (refine step_append_src (by rfl) _ _ _ (by rfl) w.heap.size 3 i0 _ 1 8 Try.underlying26 hi0 hz0 hz1 hz2 rfl (by decide) _ 0 [] (by rfl) hE3 (some ⟨b, off, none⟩) i a ((l.take i).flatMap intC) (by rfl) (by rw [flat_len intC_len, List.length_take]; omega) (fun e => by cases e) (Flat.news intC_len (by decide) (HT.out.later D3)) (flat_ones intC_one _) (by unfold maxLen; omega) (by omega) (by first | (simp; done) | (simp; omega)) ?_; intro v8 w8 hown8 hg8 ho8; rw [Nat.zero_add, List.nil_append] at hown8; obtain ⟨A8, c8, rfl⟩ := own_slice hown8; have b8 : Below w.heap.size w w8 := D3.grown hg8 (by first | (simp; done) | (simp; omega)) (fun k e => (hE3.lt k e).1); have k8 := ((Blk.new w #[.int .i64 n] 3).alloc (.cells #[] 3)).drew.grown hg8 (fun e => by have e2 := Option.some.inj e; first | (simp at e2; done) | (simp at e2; omega)))
          | (have hq8 := own_below hown8 ((Below.refl w8.heap.size w8).alloc (Nat.le_refl _) (.cells #[.int .i64 n] 3)); refine step_append_src (by rfl) _ _ _ (by rfl) w.heap.size 3 i0 _ 1 8 Try.underlying26 hi0 hz0 hz1 hz2 rfl (by decide) _ _ _ (by rfl) hq8 (some ⟨w8.heap.size, 0, none⟩) 1 1 [.int .i64 n] (by rfl) (by rfl) (fun e => by cases e) (fun ad e => by cases e; exact int_newB w8 n _) int_ones (by unfold maxLen; omega) (by omega) (by have := b8.size; first | (simp; done) | (simp; omega)) ?_; intro v9 w9 hown9 hg9 ho9; obtain ⟨A9, c9, rfl⟩ := own_slice hown9; have b9 : Below w.heap.size w w9 := (b8.alloc b8.size (.cells #[.int .i64 n] 3)).grown hg9 (by have := b8.size; first | (simp; done) | (simp; omega)) (fun k e => (hq8.lt k e).1))
          | (refine step_append_src (by rfl) _ _ _ (by rfl) w.heap.size 3 i0 _ 1 8 Try.underlying26 hi0 hz0 hz1 hz2 rfl (by decide) _ _ _ (by rfl) hown8 (some ⟨w.heap.size + 1, 0, none⟩) 1 1 [.int .i64 n] (by rfl) (by rfl) (fun e => by cases e) (fun ad e => by cases e; exact int_blk k8) int_ones (by unfold maxLen; omega) (by omega) (by have := b8.size; omega) ?_; intro v9 w9 hown9 hg9 ho9; obtain ⟨A9, c9, rfl⟩ := own_slice hown9; have b9 : Below w.heap.size w w9 := b8.grown hg9 b8.size (fun k e => (hown8.lt k e).1))
          | (refine step_append_src (by rfl) _ _ _ (by rfl) w.heap.size 3 i0 _ 1 8 Try.underlying26 hi0 hz0 hz1 hz2 rfl (by decide) _ _ _ (by rfl) hown8 (some ⟨w.heap.size, 0, none⟩) 1 1 [.int .i64 n] (by rfl) (by rfl) (fun e => by cases e) (fun ad e => by cases e; exact int_blk k8) int_ones (by unfold maxLen; omega) (by omega) (by have := b8.size; omega) ?_; intro v9 w9 hown9 hg9 ho9; obtain ⟨A9, c9, rfl⟩ := own_slice hown9; have b9 : Below w.heap.size w w9 := b8.grown hg9 b8.size (fun k e => (hown8.lt k e).1))
          | (refine step_append_src (by rfl) _ _ _ (by rfl) w.heap.size 3 i0 _ 1 8 Try.underlying26 hi0 hz0 hz1 hz2 rfl (by decide) _ _ _ (by rfl) hown9 (some ⟨b, off + i, none⟩) (l.length - i) (a - i) ((l.drop i).flatMap intC) (by rfl) (by rw [flat_len intC_len, List.length_drop]) (fun e => by cases e) (Flat.news intC_len (by decide) (HDr.out.later b9)) (flat_ones intC_one _) (by unfold maxLen; omega) (by omega) (by have := b9.size; omega) ?_; intro v10 w10 hown10 hg10 ho10; (try rw [Nat.add_zero, List.append_nil] at hown10); obtain ⟨A10, c10, rfl⟩ := own_slice hown10; have b10 : Below w.heap.size w w10 := b9.grown hg10 b9.size (fun k e => (hown9.lt k e).1)))
          all_goals go_wp2_with fail
          all_goals go_ret
          all_goals exact put_end HV.out hi hown10 b10
    · have hil : ¬ (i : Int) < (l.length : Int) := by omega
      by_cases hai : a = i
      · subst hai
        have HV : Hid (putI l n = l.take a ++ n :: l.drop a) := Lib.hid (putI_at l n a hi hN.out (fun h => absurd h hlt))
        have HT := Lib.hid (ints_take h a)
        have HDr := Lib.hid (ints_end h a (by omega))
        have hia : a ≤ a := by omega
        have D1 : Below w.heap.size w ((w.alloc (.cells #[] 3)).drew) := ((Below.refl _ _).alloc (Nat.le_refl _) _).drew
        have D2 : Below w.heap.size w (((w.alloc (.cells #[] 3)).alloc (.cells #[.int .i64 n] 3)).drew) := (((Below.refl _ _).alloc (Nat.le_refl _) _).alloc (by simp) _).drew
        have D3 : Below w.heap.size w (((w.alloc (.cells #[.int .i64 n] 3)).alloc (.cells #[] 3)).drew) := (((Below.refl _ _).alloc (Nat.le_refl _) _).alloc (by simp) _).drew
        have hE1 := own_drew (own_empty w 3 1 w.heap.size (Nat.le_refl _))
        have hE2 := own_drew (own_below (own_empty w 3 1 w.heap.size (Nat.le_refl _)) ((Below.refl _ _).alloc (Nat.le_refl _) (.cells #[.int .i64 n] 3)))
        have hE3 := own_drew (own_empty (w.alloc (.cells #[.int .i64 n] 3)) 3 1 w.heap.size (by simp))
        rw [World.size_alloc] at hE3
        go_upto_region 6 with fail
        clear h hC LIT
        go_region_law (first
          | (refine step_append_src (by rfl) _ _ _ (by rfl) w.heap.size 3 i0 _ 1 8 Try.underlying26 hi0 hz0 hz1 hz2 rfl (by decide) _ 0 [] (by rfl) hE1 (some ⟨b, off, none⟩) a a ((l.take a).flatMap intC) (by rfl) (by rw [flat_len intC_len, List.length_take]; omega) (fun e => by cases e) (Flat.news intC_len (by decide) (HT.out.later D1)) (flat_ones intC_one _) (by unfold maxLen; omega) (by omega) (by first | (simp; done) | (simp; omega)) ?_; intro v8 w8 hown8 hg8 ho8; rw [Nat.zero_add, List.nil_append] at hown8; obtain ⟨A8, c8, rfl⟩ := own_slice hown8; have b8 : Below w.heap.size w w8 := D1.grown hg8 (by first | (simp; done) | (simp; omega)) (fun k e => (hE1.lt k e).1))
          | (refine step_append_src (by rfl) _ _ _ (by rfl) w.heap.size 3 i0 _ 1 8 Try.underlying26 hi0 hz0 hz1 hz2 rfl (by decide) _ 0 [] (by rfl) hE2 (some ⟨b, off, none⟩) a a ((l.take a).flatMap intC) (by rfl) (by rw [flat_len intC_len, List.length_take]; omega) (fun e => by cases e) (Flat.news intC_len (by decide) (HT.out.later D2)) (flat_ones intC_one _) (by unfold maxLen; omega) (by omega) (by first | (simp; done) | (simp; omega)) ?_; intro v8 w8 hown8 hg8 ho8; rw [Nat.zero_add, List.nil_append] at hown8; obtain ⟨A8, c8, rfl⟩ := own_slice hown8; have b8 : Below w.heap.size w w8 := D2.grown hg8 (by first | (simp; done) | (simp; omega)) (fun k e => (hE2.lt k e).1); have k8 := (newAt' (w.alloc (.cells #[] 3)) #[.int .i64 n] 3 (g := w.heap.size + 1) (by simp)).drew.grown hg8 (fun e => by have e2 := Option.some.inj e; dsimp only at e2; omega); have gn8 : (w.heap.size + 1, (0 : Nat)) = (w.heap.size + 1, 0) := rfl)
          | (refine step_append_src (by rfl) _ _ _ (by rfl) w.heap.size 3 i0 _ 1 8 Try.underlying26 hi0 hz0 hz1 hz2 rfl (by decide) _ 0 [] (by rfl) hE3 (some ⟨b, off, none⟩) a a ((l.take a).flatMap intC) (by rfl) (by rw [flat_len intC_len, List.length_take]; omega) (fun e => by cases e) (Flat.news intC_len (by decide) (HT.out.later D3)) (flat_ones intC_one _) (by unfold maxLen; omega) (by omega) (by first | (simp; done) | (simp; omega)) ?_; intro v8 w8 hown8 hg8 ho8; rw [Nat.zero_add, List.nil_append] at hown8; obtain ⟨A8, c8, rfl⟩ := own_slice hown8; have b8 : Below w.heap.size w w8 := D3.grown hg8 (by first | (simp; done) | (simp; omega)) (fun k e => (hE3.lt k e).1); have k8 := ((Blk.new w #[.int .i64 n] 3).alloc (.cells #[] 3)).drew.grown hg8 (fun e => by have e2 := Option.some.inj e; first | (simp at e2; done) | (simp at e2; omega)))
          | (have hq8 := own_below hown8 ((Below.refl w8.heap.size w8).alloc (Nat.le_refl _) (.cells #[.int .i64 n] 3)); refine step_append_src (by rfl) _ _ _ (by rfl) w.heap.size 3 i0 _ 1 8 Try.underlying26 hi0 hz0 hz1 hz2 rfl (by decide) _ _ _ (by rfl) hq8 (some ⟨w8.heap.size, 0, none⟩) 1 1 [.int .i64 n] (by rfl) (by rfl) (fun e => by cases e) (fun ad e => by cases e; exact int_newB w8 n _) int_ones (by unfold maxLen; omega) (by omega) (by have := b8.size; first | (simp; done) | (simp; omega)) ?_; intro v9 w9 hown9 hg9 ho9; obtain ⟨A9, c9, rfl⟩ := own_slice hown9; have b9 : Below w.heap.size w w9 := (b8.alloc b8.size (.cells #[.int .i64 n] 3)).grown hg9 (by have := b8.size; first | (simp; done) | (simp; omega)) (fun k e => (hq8.lt k e).1))
          | (refine step_append_src (by rfl) _ _ _ (by rfl) w.heap.size 3 i0 _ 1 8 Try.underlying26 hi0 hz0 hz1 hz2 rfl (by decide) _ _ _ (by rfl) hown8 (some ⟨w.heap.size + 1, 0, none⟩) 1 1 [.int .i64 n] (by rfl) (by rfl) (fun e => by cases e) (fun ad e => by cases e; exact int_blk k8) int_ones (by unfold maxLen; omega) (by omega) (by have := b8.size; omega) ?_; intro v9 w9 hown9 hg9 ho9; obtain ⟨A9, c9, rfl⟩ := own_slice hown9; have b9 : Below w.heap.size w w9 := b8.grown hg9 b8.size (fun k e => (hown8.lt k e).1))
          | (refine step_append_src (by rfl) _ _ _ (by rfl) w.heap.size 3 i0 _ 1 8 Try.underlying26 hi0 hz0 hz1 hz2 rfl (by decide) _ _ _ (by rfl) hown8 (some ⟨w.heap.size, 0, none⟩) 1 1 [.int .i64 n] (by rfl) (by rfl) (fun e => by cases e) (fun ad e => by cases e; exact int_blk k8) int_ones (by unfold maxLen; omega) (by omega) (by have := b8.size; omega) ?_; intro v9 w9 hown9 hg9 ho9; obtain ⟨A9, c9, rfl⟩ := own_slice hown9; have b9 : Below w.heap.size w w9 := b8.grown hg9 b8.size (fun k e => (hown8.lt k e).1))
          | (refine step_append_src (by rfl) _ _ _ (by rfl) w.heap.size 3 i0 _ 1 8 Try.underlying26 hi0 hz0 hz1 hz2 rfl (by decide) _ _ _ (by rfl) hown9 (some ⟨b, off, none⟩) 0 0 [] (by rfl) (by rfl) (fun e => by cases e) (fun ad e j u hj => by simp at hj) (fun u hu => by cases hu) (by unfold maxLen; omega) (by omega) (by have := b9.size; omega) ?_; intro v10 w10 hown10 hg10 ho10; (try rw [Nat.add_zero, List.append_nil] at hown10); obtain ⟨A10, c10, rfl⟩ := own_slice hown10; have b10 : Below w.heap.size w w10 := b9.grown hg10 b9.size (fun k e => (hown9.lt k e).1)))
        all_goals go_wp2_with fail
        all_goals go_ret
        all_goals exact put_end0 HV.out (by omega) hown10 b10

      · skip
        have HV : Hid (putI l n = l.take i ++ n :: l.drop i) := Lib.hid (putI_at l n i hi hN.out (fun h => absurd h hlt))
        have HT := Lib.hid (ints_take h i)
        have HDr := Lib.hid (ints_drop h i)
        have hia : i ≤ a := by omega
        have D1 : Below w.heap.size w ((w.alloc (.cells #[] 3)).drew) := ((Below.refl _ _).alloc (Nat.le_refl _) _).drew
        have D2 : Below w.heap.size w (((w.alloc (.cells #[] 3)).alloc (.cells #[.int .i64 n] 3)).drew) := (((Below.refl _ _).alloc (Nat.le_refl _) _).alloc (by simp) _).drew
        have D3 : Below w.heap.size w (((w.alloc (.cells #[.int .i64 n] 3)).alloc (.cells #[] 3)).drew) := (((Below.refl _ _).alloc (Nat.le_refl _) _).alloc (by simp) _).drew
        have hE1 := own_drew (own_empty w 3 1 w.heap.size (Nat.le_refl _))
        have hE2 := own_drew (own_below (own_empty w 3 1 w.heap.size (Nat.le_refl _)) ((Below.refl _ _).alloc (Nat.le_refl _) (.cells #[.int .i64 n] 3)))
        have hE3 := own_drew (own_empty (w.alloc (.cells #[.int .i64 n] 3)) 3 1 w.heap.size (by simp))
        rw [World.size_alloc] at hE3
        go_upto_region 6 with fail
        clear h hC LIT
        go_region_law (first
          | (refine step_append_src (by rfl) _ _ _ (by rfl) w.heap.size 3 i0 _ 1 8 Try.underlying26 hi0 hz0 hz1 hz2 rfl (by decide) _ 0 [] (by rfl) hE1 (some ⟨b, off, none⟩) i a ((l.take i).flatMap intC) (by rfl) (by rw [flat_len intC_len, List.length_take]; omega) (fun e => by cases e) (Flat.news intC_len (by decide) (HT.out.later D1)) (flat_ones intC_one _) (by unfold maxLen; omega) (by omega) (by first | (simp; done) | (simp; omega)) ?_; intro v8 w8 hown8 hg8 ho8; rw [Nat.zero_add, List.nil_append] at hown8; obtain ⟨A8, c8, rfl⟩ := own_slice hown8; have b8 : Below w.heap.size w w8 := D1.grown hg8 (by first | (simp; done) | (simp; omega)) (fun k e => (hE1.lt k e).1))
          | (refine step_append_src (by rfl) _ _ _ (by rfl) w.heap.size 3 i0 _ 1 8 Try.underlying26 hi0 hz0 hz1 hz2 rfl (by decide) _ 0 [] (by rfl) hE2 (some ⟨b, off, none⟩) i a ((l.take i).flatMap intC) (by rfl) (by rw [flat_len intC_len, List.length_take]; omega) (fun e => by cases e) (Flat.news intC_len (by decide) (HT.out.later D2)) (flat_ones intC_one _) (by unfold maxLen; omega) (by omega) (by first | (simp; done) | (simp; omega)) ?_; intro v8 w8 hown8 hg8 ho8; rw [Nat.zero_add, List.nil_append] at hown8; obtain ⟨A8, c8, rfl⟩ := own_slice hown8; have b8 : Below w.heap.size w w8 := D2.grown hg8 (by first | (simp; done) | (simp; omega)) (fun k e => (hE2.lt k e).1); have k8 := (newAt' (w.alloc (.cells #[] 3)) #[.int .i64 n] 3 (g := w.heap.size + 1) (by simp)).drew.grown hg8 (fun e => by have e2 := Option.some.inj e; dsimp only at e2; omega); have gn8 : (w.heap.size + 1, (0 : Nat)) = (w.heap.size + 1, 0) := rfl)
          | (refine step_append_src (by rfl) _ _ _ (by rfl) w.heap.size 3 i0 _ 1 8 Try.underlying26 hi0 hz0 hz1 hz2 rfl (by decide) _ 0 [] (by rfl) hE3 (some ⟨b, off, none⟩) i a ((l.take i).flatMap intC) (by rfl) (by rw [flat_len intC_len, List.length_take]; omega) (fun e => by cases e) (Flat.news intC_len (by decide) (HT.out.later D3)) (flat_ones intC_one _) (by unfold maxLen; omega) (by omega) (by first | (simp; done) | (simp; omega)) ?_; intro v8 w8 hown8 hg8 ho8; rw [Nat.zero_add, List.nil_append] at hown8; obtain ⟨A8, c8, rfl⟩ := own_slice hown8; have b8 : Below w.heap.size w w8 := D3.grown hg8 (by first | (simp; done) | (simp; omega)) (fun k e => (hE3.lt k e).1); have k8 := ((Blk.new w #[.int .i64 n] 3).alloc (.cells #[] 3)).drew.grown hg8 (fun e => by have e2 := Option.some.inj e; first | (simp at e2; done) | (simp at e2; omega)))
          | (have hq8 := own_below hown8 ((Below.refl w8.heap.size w8).alloc (Nat.le_refl _) (.cells #[.int .i64 n] 3)); refine step_append_src (by rfl) _ _ _ (by rfl) w.heap.size 3 i0 _ 1 8 Try.underlying26 hi0 hz0 hz1 hz2 rfl (by decide) _ _ _ (by rfl) hq8 (some ⟨w8.heap.size, 0, none⟩) 1 1 [.int .i64 n] (by rfl) (by rfl) (fun e => by cases e) (fun ad e => by cases e; exact int_newB w8 n _) int_ones (by unfold maxLen; omega) (by omega) (by have := b8.size; first | (simp; done) | (simp; omega)) ?_; intro v9 w9 hown9 hg9 ho9; obtain ⟨A9, c9, rfl⟩ := own_slice hown9; have b9 : Below w.heap.size w w9 := (b8.alloc b8.size (.cells #[.int .i64 n] 3)).grown hg9 (by have := b8.size; first | (simp; done) | (simp; omega)) (fun k e => (hq8.lt k e).1))
          | (refine step_append_src (by rfl) _ _ _ (by rfl) w.heap.size 3 i0 _ 1 8 Try.underlying26 hi0 hz0 hz1 hz2 rfl (by decide) _ _ _ (by rfl) hown8 (some ⟨w.heap.size + 1, 0, none⟩) 1 1 [.int .i64 n] (by rfl) (by rfl) (fun e => by cases e) (fun ad e => by cases e; exact int_blk k8) int_ones (by unfold maxLen; omega) (by omega) (by have := b8.size; omega) ?_; intro v9 w9 hown9 hg9 ho9; obtain ⟨A9, c9, rfl⟩ := own_slice hown9; have b9 : Below w.heap.size w w9 := b8.grown hg9 b8.size (fun k e => (hown8.lt k e).1))
          | (refine step_append_src (by rfl) _ _ _ (by rfl) w.heap.size 3 i0 _ 1 8 Try.underlying26 hi0 hz0 hz1 hz2 rfl (by decide) _ _ _ (by rfl) hown8 (some ⟨w.heap.size, 0, none⟩) 1 1 [.int .i64 n] (by rfl) (by rfl) (fun e => by cases e) (fun ad e => by cases e; exact int_blk k8) int_ones (by unfold maxLen; omega) (by omega) (by have := b8.size; omega) ?_; intro v9 w9 hown9 hg9 ho9; obtain ⟨A9, c9, rfl⟩ := own_slice hown9; have b9 : Below w.heap.size w w9 := b8.grown hg9 b8.size (fun k e => (hown8.lt k e).1))
          | (refine step_append_src (by rfl) _ _ _ (by rfl) w.heap.size 3 i0 _ 1 8 Try.underlying26 hi0 hz0 hz1 hz2 rfl (by decide) _ _ _ (by rfl) hown9 (some ⟨b, off + i, none⟩) (l.length - i) (a - i) ((l.drop i).flatMap intC) (by rfl) (by rw [flat_len intC_len, List.length_drop]) (fun e => by cases e) (Flat.news intC_len (by decide) (HDr.out.later b9)) (flat_ones intC_one _) (by unfold maxLen; omega) (by omega) (by have := b9.size; omega) ?_; intro v10 w10 hown10 hg10 ho10; (try rw [Nat.add_zero, List.append_nil] at hown10); obtain ⟨A10, c10, rfl⟩ := own_slice hown10; have b10 : Below w.heap.size w w10 := b9.grown hg10 b9.size (fun k e => (hown9.lt k e).1)))
        all_goals go_wp2_with fail
        all_goals go_ret
        all_goals exact put_end HV.out hi hown10 b10

end Go.Proofs.Ytijhbcmmoagdmaa
