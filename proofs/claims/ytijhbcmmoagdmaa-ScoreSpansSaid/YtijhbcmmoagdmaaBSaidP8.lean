/- A number put in order, by the reference. Written by a program. -/
import Derived.Test.YtijhbcmmoagdmaaBSaidP4
import Derived.Test.YtijhbcmmoagdmaaBSaidP3
import Derived.Test.YtijhbcmmoagdmaaBSaidP2
import Derived.Test.YtijhbcmmoagdmaaBSaidP6

namespace Go.Proofs.Ytijhbcmmoagdmaa
open Go.RowKit Go.Maps

theorem putI_at : ∀ (l : List Int) (n : Int) (i : Nat), i ≤ l.length → (∀ j (h : j < l.length), j < i → l[j] < n) → (∀ h : i < l.length, n < l[i]) → putI l n = l.take i ++ n :: l.drop i
  | [], n, i, hi, _, _ => by obtain rfl : i = 0 := by simpa using hi
                             rfl
  | x :: r, n, 0, _, _, h2 => by
    have h3 := h2 (by simp)
    simp only [List.getElem_cons_zero] at h3
    simp only [putI, List.take_zero, List.drop_zero, List.nil_append]
    rw [if_neg (by omega), if_neg (by omega)]
  | x :: r, n, i + 1, hi, h1, h2 => by
    have h3 := h1 0 (by simp) (by omega)
    simp only [List.getElem_cons_zero] at h3
    simp only [putI, List.take_succ_cons, List.drop_succ_cons, List.cons_append]
    rw [if_pos h3, putI_at r n i (by simpa using hi) (fun j h hj => by have := h1 (j + 1) (by simpa using h) (by omega); simpa using this) (fun h => by have := h2 (by simpa using h); simpa using this)]
theorem putI_has : ∀ (l : List Int) (n : Int) (i : Nat) (hi : i < l.length), (∀ j (h : j < l.length), j < i → l[j] < n) → l[i] = n → putI l n = l
  | x :: r, n, 0, _, _, h2 => by
    simp only [List.getElem_cons_zero] at h2
    simp only [putI]
    rw [if_neg (by omega), if_pos h2]
  | x :: r, n, i + 1, hi, h1, h2 => by
    have h3 := h1 0 (by simp) (by omega)
    simp only [List.getElem_cons_zero] at h3
    simp only [putI]
    rw [if_pos h3, putI_has r n i (by simpa using hi) (fun j h hj => by have := h1 (j + 1) (by simpa using h) (by omega); simpa using this) (by simpa using h2)]
theorem ints_take {w : World} {A : Option Addr} {l : List Int} (h : IntsAt w w.heap.size A l) (i : Nat) : IntsAt w w.heap.size A (l.take i) := fun k hk => by
  obtain ⟨b, off, e, h1, h2⟩ := h k (by rw [List.length_take] at hk; omega)
  exact ⟨b, off, e, h1, fun j hj => by rw [h2 j hj, List.getElem_take]⟩
theorem ints_drop {w : World} {b off : Nat} {l : List Int} (h : IntsAt w w.heap.size (some ⟨b, off, none⟩) l) (i : Nat) : IntsAt w w.heap.size (some ⟨b, off + i, none⟩) (l.drop i) := fun k hk => by
  obtain ⟨b', off', e, h1, h2⟩ := h (i + k) (by rw [List.length_drop] at hk; omega)
  cases e
  refine ⟨b, off + i, rfl, h1, fun j hj => ?_⟩
  have := h2 j hj
  rw [List.getElem_drop, ← this]
  congr 2
  omega
theorem ints_end {w : World} {A : Option Addr} {l : List Int} (_ : IntsAt w w.heap.size A l) (i : Nat) (hi : l.length ≤ i) : IntsAt w w.heap.size A (l.drop i) := by
  rw [List.drop_eq_nil_of_le hi]; exact Flat.nil _ _ _ _ _
theorem int_ones {n : Int} : ∀ u ∈ [Value.int .i64 n], u.oneCell' = true := fun u hu => by rw [List.mem_singleton] at hu; subst hu; rfl
theorem int_blk {w : World} {g : Nat} {n : Int} {t : TypeId} (h : Blk w g #[.int .i64 n] t) : ∀ j u, [Value.int .i64 n][j]? = some u → w.cell? ((⟨g, 0, none⟩ : Addr).add j) = some u := fun j u hj => by
  rw [WideShapes.add_plain, Nat.zero_add]
  exact (h.cell j).trans (by simpa using hj)
theorem int_newB (w : World) (n : Int) (t : TypeId) : ∀ j u, [Value.int .i64 n][j]? = some u → (w.alloc (.cells #[.int .i64 n] t)).cell? ((⟨w.heap.size, 0, none⟩ : Addr).add j) = some u := int_blk (Blk.new w _ t)
theorem own_cap {w : World} {base : Nat} {e : TypeId} {size n c : Nat} {A : Option Addr} {xs : List Value} (h : w.ownsRow base e size (.slice A n c) n xs) : n ≤ c := by
  rcases h.2 with ⟨e1, e2⟩ | ⟨g, cap, cur, e1, _, _, h2, _⟩
  · omega
  · injection e1 with _ _ e3; omega

/-- The numbers with one put in order. -/
def PutS (w : World) (A : Option Addr) (l : List Int) (e : Ending) (w' : World) : Prop :=
  ∃ A' c', e = .returned (.slice A' l.length c') ∧ IntsAt w' w'.heap.size A' l ∧ l.length ≤ c' ∧ Below w.heap.size w w' ∧ (A' = A ∨ ∀ ad, A' = some ad → w.heap.size ≤ ad.block)
theorem own_new {w : World} {base : Nat} {e : TypeId} {size n c : Nat} {A : Option Addr} {xs : List Value} (h : w.ownsRow base e size (.slice A n c) n xs) : ∀ ad, A = some ad → base ≤ ad.block := fun ad hA => by
  rcases h.2 with ⟨e1, _⟩ | ⟨g, cap, cur, e1, h1, _⟩
  · injection e1 with e2; rw [e2] at hA; cases hA
  · injection e1 with e2; rw [e2] at hA; cases hA; exact h1
theorem put_end {w w' : World} {l : List Int} {n : Int} {i : Nat} {A A0 : Option Addr} {c : Nat} (hv : putI l n = l.take i ++ n :: l.drop i) (hi : i ≤ l.length) (h : w'.ownsRow w.heap.size 3 1 (.slice A (i + 1 + (l.length - i)) c) (i + 1 + (l.length - i)) (((l.take i).flatMap intC ++ [.int .i64 n]) ++ (l.drop i).flatMap intC)) (hb : Below w.heap.size w w') : PutS w A0 (putI l n) (.returned (.slice A (i + 1 + (l.length - i)) c)) w' := by
  have e1 : (putI l n).length = i + 1 + (l.length - i) := by rw [hv]; simp only [List.length_append, List.length_cons, List.length_take, List.length_drop]; omega
  have e2 : (putI l n).flatMap intC = ((l.take i).flatMap intC ++ [.int .i64 n]) ++ (l.drop i).flatMap intC := by rw [hv]; simp [intC]
  rw [← e1, ← e2] at h
  refine ⟨A, c, by rw [e1], ?_, own_cap h, hb, .inr (own_new h)⟩
  exact (FlatP.of_own (P := fun _ => True) intC_len (by decide) h (fun _ _ _ _ => trivial)).flat

theorem put_end0 {w w' : World} {l : List Int} {n : Int} {i : Nat} {A A0 : Option Addr} {c : Nat} (hv : putI l n = l.take i ++ n :: l.drop i) (hi : i = l.length) (h : w'.ownsRow w.heap.size 3 1 (.slice A (i + 1) c) (i + 1) ((l.take i).flatMap intC ++ [.int .i64 n])) (hb : Below w.heap.size w w') : PutS w A0 (putI l n) (.returned (.slice A (i + 1) c)) w' := by
  have e1 : (putI l n).length = i + 1 := by rw [hv]; simp only [List.length_append, List.length_cons, List.length_take, List.length_drop]; omega
  have e2 : (putI l n).flatMap intC = (l.take i).flatMap intC ++ [.int .i64 n] := by rw [hv, List.drop_eq_nil_of_le (by omega)]; simp [intC]
  rw [← e1, ← e2] at h
  refine ⟨A, c, by rw [e1], ?_, own_cap h, hb, .inr (own_new h)⟩
  exact (FlatP.of_own (P := fun _ => True) intC_len (by decide) h (fun _ _ _ _ => trivial)).flat

set_option maxRecDepth 100000 in
set_option maxHeartbeats 8000000 in
theorem put6_any (l : List Int) (n : Int) (A : Option Addr) (a : Nat) (w : World) (h : IntsAt w w.heap.size A l) (hne : l ≠ []) (hl : l.length ≤ 100000) (ha : l.length ≤ a) :
    Calls Try.prog 53 #[.slice A l.length a, .int .i64 n] w (PutS w A (putI l n)) := by
  obtain ⟨i0, hi0, hz0, hz1, hz2⟩ := info_parts intInfo
  obtain ⟨b, off, rfl, hb, h0⟩ := ints_at h (List.length_pos_iff.2 hne)
  have hC : Hid (∀ k (hk : k < l.length), w.cell? ⟨b, off + k, none⟩ = some (.int .i64 l[k])) := Lib.hid (fun k hk => by obtain ⟨b', off', e, _, h2⟩ := ints_at h hk; cases e; exact h2)
  have LIT := Lib.hid (trivial : True)
  clear h0 hne
  go_enter Try.func53, Try.ntmps53
  go_wp2_with fail
  go_loopw [5] (fun ii wr => ∃ i : Nat, i ≤ l.length ∧ ii = .int .i64 i ∧ Hid (∀ j (h : j < l.length), j < i → l[j] < n) ∧ w = wr) (fun ii _ => l.length - (vInt ii).toNat)
  case atStart => exact ⟨0, Nat.zero_le _, rfl, Lib.hid (fun j _ hj => absurd hj (Nat.not_lt_zero _)), rfl⟩
  case round =>
    obtain ⟨i, hi, rfl, hN, rfl⟩ := hrel
    by_cases hlt : i < l.length
    · have hil : (i : Int) < (l.length : Int) := by omega
      have c0 := hC.out i hlt
      have HL : Hid (∀ y, y = l[i] → ∀ j (h : j < l.length), j < i + 1 → y < n → l[j] < n) := Lib.hid (fun y hy j h hj hyn => by
        rcases Nat.lt_or_ge j i with hji | hji
        · exact hN.out j h hji
        · obtain rfl : j = i := by omega
          omega)
      have HE : Hid (l[i] = n → putI l n = l) := Lib.hid (putI_has l n i hlt hN.out)
      have HP : Hid (n < l[i] → putI l n = l.take i ++ n :: l.drop i) := Lib.hid (fun hn => putI_at l n i hi hN.out (fun _ => hn))
      obtain ⟨y, hy⟩ : ∃ y, y = l[i] := ⟨_, rfl⟩
      have HY := Lib.hid (HL.out y hy)
      rw [← hy] at c0 HE HP
      clear HL hy
      by_cases hyn : y < n
      · have HJ : Hid (∀ j (h : j < l.length), j < i + 1 → l[j] < n) := Lib.hid (fun j h hj => HY.out j h hj hyn)
        clear HY HE HP hN
        go_wp2_with fail
        go_roundw
        case rel => exact ⟨i + 1, by omega, by go_num, HJ, by first | rfl | trivial⟩
        case measure => simp [vInt]; omega
      · clear HY hN
        by_cases hye : y = n
        · have HV := Lib.hid (HE.out hye)
          have hyb : (y == n) = true := by simp [hye]
          clear HE HP
          go_wp2_with fail
          go_ret
          exact ⟨some ⟨b, off, none⟩, a, by rw [HV.out]; rfl, by rw [HV.out]; exact h, by rw [HV.out]; exact ha, Below.refl _ _, .inl rfl⟩
        · have hyb : (y == n) = false := by simpa using hye
          have hai : ¬ a = i := by omega
          have HV : Hid (putI l n = l.take i ++ n :: l.drop i) := Lib.hid (HP.out (by omega))
          have HT := Lib.hid (ints_take h i)
          have HDr := Lib.hid (ints_drop h i)
          have hia : i ≤ a := by omega
          have D1 : Below w.heap.size w ((w.alloc (.cells #[] 3)).drew) := ((Below.refl _ _).alloc (Nat.le_refl _) _).drew
          have D2 : Below w.heap.size w (((w.alloc (.cells #[] 3)).alloc (.cells #[.int .i64 n] 3)).drew) := (((Below.refl _ _).alloc (Nat.le_refl _) _).alloc (by simp) _).drew
          have D3 : Below w.heap.size w (((w.alloc (.cells #[.int .i64 n] 3)).alloc (.cells #[] 3)).drew) := (((Below.refl _ _).alloc (Nat.le_refl _) _).alloc (by simp) _).drew
          have hE1 := own_drew (own_empty w 3 1 w.heap.size (Nat.le_refl _))
          have hE2 := own_drew (own_below (own_empty w 3 1 w.heap.size (Nat.le_refl _)) ((Below.refl _ _).alloc (Nat.le_refl _) (.cells #[.int .i64 n] 3)))
          have hE3 := own_drew (own_empty (w.alloc (.cells #[.int .i64 n] 3)) 3 1 w.heap.size (by simp))
          rw [World.size_alloc] at hE3
          go_upto_region 6 with fail
          clear h hC LIT
          go_region_law (first
          | (refine step_append_src (by rfl) _ _ _ (by rfl) w.heap.size 3 i0 _ 1 8 Try.underlying26 hi0 hz0 hz1 hz2 rfl (by decide) _ 0 [] (by rfl) hE1 (some ⟨b, off, none⟩) i a ((l.take i).flatMap intC) (by rfl) (by rw [flat_len intC_len, List.length_take]; omega) (fun e => by cases e) (Flat.news intC_len (by decide) (HT.out.later D1)) (flat_ones intC_one _) (by unfold maxLen; omega) (by omega) (by first | (simp; done) | (simp; omega)) ?_; intro v8 w8 hown8 hg8 ho8; rw [Nat.zero_add, List.nil_append] at hown8; obtain ⟨A8, c8, rfl⟩ := own_slice hown8; have b8 : Below w.heap.size w w8 := D1.grown hg8 (by first | (simp; done) | (simp; omega)) (fun k e => (hE1.lt k e).1))
          | (refine step_append_src (by rfl) _ _ _ (by rfl) w.heap.size 3 i0 _ 1 8 Try.underlying26 hi0 hz0 hz1 hz2 rfl (by decide) _ 0 [] (by rfl) hE2 (some ⟨b, off, none⟩) i a ((l.take i).flatMap intC) (by rfl) (by rw [flat_len intC_len, List.length_take]; omega) (fun e => by cases e) (Flat.news intC_len (by decide) (HT.out.later D2)) (flat_ones intC_one _) (by unfold maxLen; omega) (by omega) (by first | (simp; done) | (simp; omega)) ?_; intro v8 w8 hown8 hg8 ho8; rw [Nat.zero_add, List.nil_append] at hown8; obtain ⟨A8, c8, rfl⟩ := own_slice hown8; have b8 : Below w.heap.size w w8 := D2.grown hg8 (by first | (simp; done) | (simp; omega)) (fun k e => (hE2.lt k e).1); have k8 := (newAt' (w.alloc (.cells #[] 3)) #[.int .i64 n] 3 (g := w.heap.size + 1) (by simp)).drew.grown hg8 (fun e => by have e2 := Option.some.inj e; dsimp only at e2; omega); have gn8 : (w.heap.size + 1, (0 : Nat)) = (w.heap.size + 1, 0) := rfl)
          | (refine step_append_src (by rfl) _ _ _ (by rfl) w.heap.size 3 i0 _ 1 8 Try.underlying26 hi0 hz0 hz1 hz2 rfl (by decide) _ 0 [] (by rfl) hE3 (some ⟨b, off, none⟩) i a ((l.take i).flatMap intC) (by rfl) (by rw [flat_len intC_len, List.length_take]; omega) (fun e => by cases e) (Flat.news intC_len (by decide) (HT.out.later D3)) (flat_ones intC_one _) (by unfold maxLen; omega) (by omega) (by first | (simp; done) | (simp; omega)) ?_; intro v8 w8 hown8 hg8 ho8; rw [Nat.zero_add, List.nil_append] at hown8; obtain ⟨A8, c8, rfl⟩ := own_slice hown8; have b8 : Below w.heap.size w w8 := D3.grown hg8 (by first | (simp; done) | (simp; omega)) (fun k e => (hE3.lt k e).1); have k8 := ((Blk.new w #[.int .i64 n] 3).alloc (.cells #[] 3)).drew.grown hg8 (fun e => by have e2 := Option.some.inj e; first | (simp at e2; done) | (simp at e2; omega)))
          | (have hq8 := own_below hown8 ((Below.refl w8.heap.size w8).alloc (Nat.le_refl _) (.cells #[.int .i64 n] 3)); refine step_append_src (by rfl) _ _ _ (by rfl) w.heap.size 3 i0 _ 1 8 Try.underlying26 hi0 hz0 hz1 hz2 rfl (by decide) _ _ _ (by rfl) hq8 (some ⟨w8.heap.size, 0, none⟩) 1 1 [.int .i64 n] (by rfl) (by rfl) (fun e => by cases e) (fun ad e => by cases e; exact int_newB w8 n _) int_ones (by unfold maxLen; omega) (by omega) (by have := b8.size; first | (simp; done) | (simp; omega)) ?_; intro v9 w9 hown9 hg9 ho9; obtain ⟨A9, c9, rfl⟩ := own_slice hown9; have b9 : Below w.heap.size w w9 := (b8.alloc b8.size (.cells #[.int .i64 n] 3)).grown hg9 (by have := b8.size; first | (simp; done) | (simp; omega)) (fun k e => (hq8.lt k e).1))
          | (refine step_append_src (by rfl) _ _ _ (by rfl) w.heap.size 3 i0 _ 1 8 Try.underlying26 hi0 hz0 hz1 hz2 rfl (by decide) _ _ _ (by rfl) hown8 (some ⟨w.heap.size + 1, 0, none⟩) 1 1 [.int .i64 n] (by rfl) (by rfl) (fun e => by cases e) (fun ad e => by cases e; exact int_blk k8) int_ones (by unfold maxLen; omega) (by omega) (by have := b8.size; omega) ?_; intro v9 w9 hown9 hg9 ho9; obtain ⟨A9, c9, rfl⟩ := own_slice hown9; have b9 : Below w.heap.size w w9 := b8.grown hg9 b8.size (fun k e => (hown8.lt k e).1))
          | (refine step_append_src (by rfl) _ _ _ (by rfl) w.heap.size 3 i0 _ 1 8 Try.underlying26 hi0 hz0 hz1 hz2 rfl (by decide) _ _ _ (by rfl) hown8 (some ⟨w.heap.size, 0, none⟩) 1 1 [.int .i64 n] (by rfl) (by rfl) (fun e => by cases e) (fun ad e => by cases e; exact int_blk k8) int_ones (by unfold maxLen; omega) (by omega) (by have := b8.size; omega) ?_; intro v9 w9 hown9 hg9 ho9; obtain ⟨A9, c9, rfl⟩ := own_slice hown9; have b9 : Below w.heap.size w w9 := b8.grown hg9 b8.size (fun k e => (hown8.lt k e).1))
          | (refine step_append_src (by rfl) _ _ _ (by rfl) w.heap.size 3 i0 _ 1 8 Try.underlying26 hi0 hz0 hz1 hz2 rfl (by decide) _ _ _ (by rfl) hown9 (some ⟨b, off + i, none⟩) (l.length - i) (a - i) ((l.drop i).flatMap intC) (by rfl) (by rw [flat_len intC_len, List.length_drop]) (fun e => by cases e) (Flat.news intC_len (by decide) (HDr.out.later b9)) (flat_ones intC_one _) (by unfold maxLen; omega) (by omega) (by have := b9.size; omega) ?_; intro v10 w10 hown10 hg10 ho10; (try rw [Nat.add_zero, List.append_nil] at hown10); obtain ⟨A10, c10, rfl⟩ := own_slice hown10; have b10 : Below w.heap.size w w10 := b9.grown hg10 b9.size (fun k e => (hown9.lt k e).1)))
          all_goals go_wp2_with fail
          all_goals go_ret
          all_goals exact put_end HV.out hi hown10 b10
    · have hil : ¬ (i : Int) < (l.length : Int) := by omega
      by_cases hai : a = i
      · subst hai
        have HV : Hid (putI l n = l.take a ++ n :: l.drop a) := Lib.hid (putI_at l n a hi hN.out (fun h => absurd h hlt))
        have HT := Lib.hid (ints_take h a)
        have HDr := Lib.hid (ints_end h a (by omega))
        have hia : a ≤ a := by omega
        have D1 : Below w.heap.size w ((w.alloc (.cells #[] 3)).drew) := ((Below.refl _ _).alloc (Nat.le_refl _) _).drew
        have D2 : Below w.heap.size w (((w.alloc (.cells #[] 3)).alloc (.cells #[.int .i64 n] 3)).drew) := (((Below.refl _ _).alloc (Nat.le_refl _) _).alloc (by simp) _).drew
        have D3 : Below w.heap.size w (((w.alloc (.cells #[.int .i64 n] 3)).alloc (.cells #[] 3)).drew) := (((Below.refl _ _).alloc (Nat.le_refl _) _).alloc (by simp) _).drew
        have hE1 := own_drew (own_empty w 3 1 w.heap.size (Nat.le_refl _))
        have hE2 := own_drew (own_below (own_empty w 3 1 w.heap.size (Nat.le_refl _)) ((Below.refl _ _).alloc (Nat.le_refl _) (.cells #[.int .i64 n] 3)))
        have hE3 := own_drew (own_empty (w.alloc (.cells #[.int .i64 n] 3)) 3 1 w.heap.size (by simp))
        rw [World.size_alloc] at hE3
        go_upto_region 6 with fail
        clear h hC LIT
        go_region_law (first
          | (refine step_append_src (by rfl) _ _ _ (by rfl) w.heap.size 3 i0 _ 1 8 Try.underlying26 hi0 hz0 hz1 hz2 rfl (by decide) _ 0 [] (by rfl) hE1 (some ⟨b, off, none⟩) a a ((l.take a).flatMap intC) (by rfl) (by rw [flat_len intC_len, List.length_take]; omega) (fun e => by cases e) (Flat.news intC_len (by decide) (HT.out.later D1)) (flat_ones intC_one _) (by unfold maxLen; omega) (by omega) (by first | (simp; done) | (simp; omega)) ?_; intro v8 w8 hown8 hg8 ho8; rw [Nat.zero_add, List.nil_append] at hown8; obtain ⟨A8, c8, rfl⟩ := own_slice hown8; have b8 : Below w.heap.size w w8 := D1.grown hg8 (by first | (simp; done) | (simp; omega)) (fun k e => (hE1.lt k e).1))
          | (refine step_append_src (by rfl) _ _ _ (by rfl) w.heap.size 3 i0 _ 1 8 Try.underlying26 hi0 hz0 hz1 hz2 rfl (by decide) _ 0 [] (by rfl) hE2 (some ⟨b, off, none⟩) a a ((l.take a).flatMap intC) (by rfl) (by rw [flat_len intC_len, List.length_take]; omega) (fun e => by cases e) (Flat.news intC_len (by decide) (HT.out.later D2)) (flat_ones intC_one _) (by unfold maxLen; omega) (by omega) (by first | (simp; done) | (simp; omega)) ?_; intro v8 w8 hown8 hg8 ho8; rw [Nat.zero_add, List.nil_append] at hown8; obtain ⟨A8, c8, rfl⟩ := own_slice hown8; have b8 : Below w.heap.size w w8 := D2.grown hg8 (by first | (simp; done) | (simp; omega)) (fun k e => (hE2.lt k e).1); have k8 := (newAt' (w.alloc (.cells #[] 3)) #[.int .i64 n] 3 (g := w.heap.size + 1) (by simp)).drew.grown hg8 (fun e => by have e2 := Option.some.inj e; dsimp only at e2; omega); have gn8 : (w.heap.size + 1, (0 : Nat)) = (w.heap.size + 1, 0) := rfl)
          | (refine step_append_src (by rfl) _ _ _ (by rfl) w.heap.size 3 i0 _ 1 8 Try.underlying26 hi0 hz0 hz1 hz2 rfl (by decide) _ 0 [] (by rfl) hE3 (some ⟨b, off, none⟩) a a ((l.take a).flatMap intC) (by rfl) (by rw [flat_len intC_len, List.length_take]; omega) (fun e => by cases e) (Flat.news intC_len (by decide) (HT.out.later D3)) (flat_ones intC_one _) (by unfold maxLen; omega) (by omega) (by first | (simp; done) | (simp; omega)) ?_; intro v8 w8 hown8 hg8 ho8; rw [Nat.zero_add, List.nil_append] at hown8; obtain ⟨A8, c8, rfl⟩ := own_slice hown8; have b8 : Below w.heap.size w w8 := D3.grown hg8 (by first | (simp; done) | (simp; omega)) (fun k e => (hE3.lt k e).1); have k8 := ((Blk.new w #[.int .i64 n] 3).alloc (.cells #[] 3)).drew.grown hg8 (fun e => by have e2 := Option.some.inj e; first | (simp at e2; done) | (simp at e2; omega)))
          | (have hq8 := own_below hown8 ((Below.refl w8.heap.size w8).alloc (Nat.le_refl _) (.cells #[.int .i64 n] 3)); refine step_append_src (by rfl) _ _ _ (by rfl) w.heap.size 3 i0 _ 1 8 Try.underlying26 hi0 hz0 hz1 hz2 rfl (by decide) _ _ _ (by rfl) hq8 (some ⟨w8.heap.size, 0, none⟩) 1 1 [.int .i64 n] (by rfl) (by rfl) (fun e => by cases e) (fun ad e => by cases e; exact int_newB w8 n _) int_ones (by unfold maxLen; omega) (by omega) (by have := b8.size; first | (simp; done) | (simp; omega)) ?_; intro v9 w9 hown9 hg9 ho9; obtain ⟨A9, c9, rfl⟩ := own_slice hown9; have b9 : Below w.heap.size w w9 := (b8.alloc b8.size (.cells #[.int .i64 n] 3)).grown hg9 (by have := b8.size; first | (simp; done) | (simp; omega)) (fun k e => (hq8.lt k e).1))
          | (refine step_append_src (by rfl) _ _ _ (by rfl) w.heap.size 3 i0 _ 1 8 Try.underlying26 hi0 hz0 hz1 hz2 rfl (by decide) _ _ _ (by rfl) hown8 (some ⟨w.heap.size + 1, 0, none⟩) 1 1 [.int .i64 n] (by rfl) (by rfl) (fun e => by cases e) (fun ad e => by cases e; exact int_blk k8) int_ones (by unfold maxLen; omega) (by omega) (by have := b8.size; omega) ?_; intro v9 w9 hown9 hg9 ho9; obtain ⟨A9, c9, rfl⟩ := own_slice hown9; have b9 : Below w.heap.size w w9 := b8.grown hg9 b8.size (fun k e => (hown8.lt k e).1))
          | (refine step_append_src (by rfl) _ _ _ (by rfl) w.heap.size 3 i0 _ 1 8 Try.underlying26 hi0 hz0 hz1 hz2 rfl (by decide) _ _ _ (by rfl) hown8 (some ⟨w.heap.size, 0, none⟩) 1 1 [.int .i64 n] (by rfl) (by rfl) (fun e => by cases e) (fun ad e => by cases e; exact int_blk k8) int_ones (by unfold maxLen; omega) (by omega) (by have := b8.size; omega) ?_; intro v9 w9 hown9 hg9 ho9; obtain ⟨A9, c9, rfl⟩ := own_slice hown9; have b9 : Below w.heap.size w w9 := b8.grown hg9 b8.size (fun k e => (hown8.lt k e).1))
          | (refine step_append_src (by rfl) _ _ _ (by rfl) w.heap.size 3 i0 _ 1 8 Try.underlying26 hi0 hz0 hz1 hz2 rfl (by decide) _ _ _ (by rfl) hown9 (some ⟨b, off, none⟩) 0 0 [] (by rfl) (by rfl) (fun e => by cases e) (fun ad e j u hj => by simp at hj) (fun u hu => by cases hu) (by unfold maxLen; omega) (by omega) (by have := b9.size; omega) ?_; intro v10 w10 hown10 hg10 ho10; (try rw [Nat.add_zero, List.append_nil] at hown10); obtain ⟨A10, c10, rfl⟩ := own_slice hown10; have b10 : Below w.heap.size w w10 := b9.grown hg10 b9.size (fun k e => (hown9.lt k e).1)))
        all_goals go_wp2_with fail
        all_goals go_ret
        all_goals exact put_end0 HV.out (by omega) hown10 b10

      · skip
        have HV : Hid (putI l n = l.take i ++ n :: l.drop i) := Lib.hid (putI_at l n i hi hN.out (fun h => absurd h hlt))
        have HT := Lib.hid (ints_take h i)
        have HDr := Lib.hid (ints_drop h i)
        have hia : i ≤ a := by omega
        have D1 : Below w.heap.size w ((w.alloc (.cells #[] 3)).drew) := ((Below.refl _ _).alloc (Nat.le_refl _) _).drew
        have D2 : Below w.heap.size w (((w.alloc (.cells #[] 3)).alloc (.cells #[.int .i64 n] 3)).drew) := (((Below.refl _ _).alloc (Nat.le_refl _) _).alloc (by simp) _).drew
        have D3 : Below w.heap.size w (((w.alloc (.cells #[.int .i64 n] 3)).alloc (.cells #[] 3)).drew) := (((Below.refl _ _).alloc (Nat.le_refl _) _).alloc (by simp) _).drew
        have hE1 := own_drew (own_empty w 3 1 w.heap.size (Nat.le_refl _))
        have hE2 := own_drew (own_below (own_empty w 3 1 w.heap.size (Nat.le_refl _)) ((Below.refl _ _).alloc (Nat.le_refl _) (.cells #[.int .i64 n] 3)))
        have hE3 := own_drew (own_empty (w.alloc (.cells #[.int .i64 n] 3)) 3 1 w.heap.size (by simp))
        rw [World.size_alloc] at hE3
        go_upto_region 6 with fail
        clear h hC LIT
        go_region_law (first
          | (refine step_append_src (by rfl) _ _ _ (by rfl) w.heap.size 3 i0 _ 1 8 Try.underlying26 hi0 hz0 hz1 hz2 rfl (by decide) _ 0 [] (by rfl) hE1 (some ⟨b, off, none⟩) i a ((l.take i).flatMap intC) (by rfl) (by rw [flat_len intC_len, List.length_take]; omega) (fun e => by cases e) (Flat.news intC_len (by decide) (HT.out.later D1)) (flat_ones intC_one _) (by unfold maxLen; omega) (by omega) (by first | (simp; done) | (simp; omega)) ?_; intro v8 w8 hown8 hg8 ho8; rw [Nat.zero_add, List.nil_append] at hown8; obtain ⟨A8, c8, rfl⟩ := own_slice hown8; have b8 : Below w.heap.size w w8 := D1.grown hg8 (by first | (simp; done) | (simp; omega)) (fun k e => (hE1.lt k e).1))
          | (refine step_append_src (by rfl) _ _ _ (by rfl) w.heap.size 3 i0 _ 1 8 Try.underlying26 hi0 hz0 hz1 hz2 rfl (by decide) _ 0 [] (by rfl) hE2 (some ⟨b, off, none⟩) i a ((l.take i).flatMap intC) (by rfl) (by rw [flat_len intC_len, List.length_take]; omega) (fun e => by cases e) (Flat.news intC_len (by decide) (HT.out.later D2)) (flat_ones intC_one _) (by unfold maxLen; omega) (by omega) (by first | (simp; done) | (simp; omega)) ?_; intro v8 w8 hown8 hg8 ho8; rw [Nat.zero_add, List.nil_append] at hown8; obtain ⟨A8, c8, rfl⟩ := own_slice hown8; have b8 : Below w.heap.size w w8 := D2.grown hg8 (by first | (simp; done) | (simp; omega)) (fun k e => (hE2.lt k e).1); have k8 := (newAt' (w.alloc (.cells #[] 3)) #[.int .i64 n] 3 (g := w.heap.size + 1) (by simp)).drew.grown hg8 (fun e => by have e2 := Option.some.inj e; dsimp only at e2; omega); have gn8 : (w.heap.size + 1, (0 : Nat)) = (w.heap.size + 1, 0) := rfl)
          | (refine step_append_src (by rfl) _ _ _ (by rfl) w.heap.size 3 i0 _ 1 8 Try.underlying26 hi0 hz0 hz1 hz2 rfl (by decide) _ 0 [] (by rfl) hE3 (some ⟨b, off, none⟩) i a ((l.take i).flatMap intC) (by rfl) (by rw [flat_len intC_len, List.length_take]; omega) (fun e => by cases e) (Flat.news intC_len (by decide) (HT.out.later D3)) (flat_ones intC_one _) (by unfold maxLen; omega) (by omega) (by first | (simp; done) | (simp; omega)) ?_; intro v8 w8 hown8 hg8 ho8; rw [Nat.zero_add, List.nil_append] at hown8; obtain ⟨A8, c8, rfl⟩ := own_slice hown8; have b8 : Below w.heap.size w w8 := D3.grown hg8 (by first | (simp; done) | (simp; omega)) (fun k e => (hE3.lt k e).1); have k8 := ((Blk.new w #[.int .i64 n] 3).alloc (.cells #[] 3)).drew.grown hg8 (fun e => by have e2 := Option.some.inj e; first | (simp at e2; done) | (simp at e2; omega)))
          | (have hq8 := own_below hown8 ((Below.refl w8.heap.size w8).alloc (Nat.le_refl _) (.cells #[.int .i64 n] 3)); refine step_append_src (by rfl) _ _ _ (by rfl) w.heap.size 3 i0 _ 1 8 Try.underlying26 hi0 hz0 hz1 hz2 rfl (by decide) _ _ _ (by rfl) hq8 (some ⟨w8.heap.size, 0, none⟩) 1 1 [.int .i64 n] (by rfl) (by rfl) (fun e => by cases e) (fun ad e => by cases e; exact int_newB w8 n _) int_ones (by unfold maxLen; omega) (by omega) (by have := b8.size; first | (simp; done) | (simp; omega)) ?_; intro v9 w9 hown9 hg9 ho9; obtain ⟨A9, c9, rfl⟩ := own_slice hown9; have b9 : Below w.heap.size w w9 := (b8.alloc b8.size (.cells #[.int .i64 n] 3)).grown hg9 (by have := b8.size; first | (simp; done) | (simp; omega)) (fun k e => (hq8.lt k e).1))
          | (refine step_append_src (by rfl) _ _ _ (by rfl) w.heap.size 3 i0 _ 1 8 Try.underlying26 hi0 hz0 hz1 hz2 rfl (by decide) _ _ _ (by rfl) hown8 (some ⟨w.heap.size + 1, 0, none⟩) 1 1 [.int .i64 n] (by rfl) (by rfl) (fun e => by cases e) (fun ad e => by cases e; exact int_blk k8) int_ones (by unfold maxLen; omega) (by omega) (by have := b8.size; omega) ?_; intro v9 w9 hown9 hg9 ho9; obtain ⟨A9, c9, rfl⟩ := own_slice hown9; have b9 : Below w.heap.size w w9 := b8.grown hg9 b8.size (fun k e => (hown8.lt k e).1))
          | (refine step_append_src (by rfl) _ _ _ (by rfl) w.heap.size 3 i0 _ 1 8 Try.underlying26 hi0 hz0 hz1 hz2 rfl (by decide) _ _ _ (by rfl) hown8 (some ⟨w.heap.size, 0, none⟩) 1 1 [.int .i64 n] (by rfl) (by rfl) (fun e => by cases e) (fun ad e => by cases e; exact int_blk k8) int_ones (by unfold maxLen; omega) (by omega) (by have := b8.size; omega) ?_; intro v9 w9 hown9 hg9 ho9; obtain ⟨A9, c9, rfl⟩ := own_slice hown9; have b9 : Below w.heap.size w w9 := b8.grown hg9 b8.size (fun k e => (hown8.lt k e).1))
          | (refine step_append_src (by rfl) _ _ _ (by rfl) w.heap.size 3 i0 _ 1 8 Try.underlying26 hi0 hz0 hz1 hz2 rfl (by decide) _ _ _ (by rfl) hown9 (some ⟨b, off + i, none⟩) (l.length - i) (a - i) ((l.drop i).flatMap intC) (by rfl) (by rw [flat_len intC_len, List.length_drop]) (fun e => by cases e) (Flat.news intC_len (by decide) (HDr.out.later b9)) (flat_ones intC_one _) (by unfold maxLen; omega) (by omega) (by have := b9.size; omega) ?_; intro v10 w10 hown10 hg10 ho10; (try rw [Nat.add_zero, List.append_nil] at hown10); obtain ⟨A10, c10, rfl⟩ := own_slice hown10; have b10 : Below w.heap.size w w10 := b9.grown hg10 b9.size (fun k e => (hown9.lt k e).1)))
        all_goals go_wp2_with fail
        all_goals go_ret
        all_goals exact put_end HV.out hi hown10 b10

end Go.Proofs.Ytijhbcmmoagdmaa

namespace Go.Proofs.Ytijhbcmmoagdmaa
open Go.RowKit Go.Maps

def fcC (tr : Nat) (y : CrdD) : List Int := (y.v.scales.getD tr default).cuts
def ftC (tr : Nat) (y : TreD) : List Int := nodCuts (tr : Int) y.v.nodes
theorem cutsT_eq (traits need : Int) (cl : List CrdD) (tl : List TreD) (tr : Nat) : cutsT ⟨traits, cl.map CrdD.v, tl.map TreD.v, need⟩ tr = cl.flatMap (fcC tr) ++ tl.flatMap (ftC tr) := by
  unfold cutsT
  simp only [List.flatMap_map]
  rfl
theorem fcC_eq {tr : Nat} {y : CrdD} (h : tr < y.scales.length) : fcC tr y = (y.scales[tr]).v.cuts := by
  unfold fcC CrdD.v
  simp only
  rw [getD_lt _ _ (by simpa using h)]
  simp
theorem stepsI_snoc (lo hi : Int) (cs : List Int) (n : Int) : stepsI lo hi (cs ++ [n]) = if spanIn lo hi n = true then putI (stepsI lo hi cs) n else stepsI lo hi cs := by
  unfold stepsI; rw [List.foldl_append]; rfl
theorem putI_lenR : ∀ (l : List Int) (n : Int), (putI l n).length ≤ l.length + 1 ∧ putI l n ≠ []
  | [], n => by simp [putI]
  | x :: r, n => by
    have := putI_lenR r n
    unfold putI
    split
    · simp; omega
    · split <;> simp
theorem stepsI_lenR (lo hi : Int) : ∀ (cs a : List Int), a ≠ [] → (cs.foldl (fun a c => if spanIn lo hi c = true then putI a c else a) a).length ≤ a.length + cs.length ∧ cs.foldl (fun a c => if spanIn lo hi c = true then putI a c else a) a ≠ []
  | [], a, h => ⟨by simp, h⟩
  | c :: cs, a, h => by
    rw [List.foldl_cons]
    by_cases hc : spanIn lo hi c = true
    · rw [if_pos hc]
      have h1 := putI_lenR a c
      have := stepsI_lenR lo hi cs (putI a c) h1.2
      exact ⟨by rw [List.length_cons]; omega, this.2⟩
    · rw [if_neg hc]
      have := stepsI_lenR lo hi cs a h
      exact ⟨by rw [List.length_cons]; omega, this.2⟩
theorem flatMap_leR {α β : Type} {f : α → List β} {b : Nat} : ∀ {l : List α}, (∀ x ∈ l, (f x).length ≤ b) → (l.flatMap f).length ≤ l.length * b
  | [], _ => by simp
  | x :: l, h => by
    rw [List.flatMap_cons, List.length_append, List.length_cons, Nat.succ_mul]
    have := flatMap_leR (l := l) (f := f) (b := b) (fun y hy => h y (List.mem_cons_of_mem _ hy))
    have := h x (List.mem_cons_self ..)
    omega
theorem ints_blk {w : World} {g : Nat} {n : Int} {t : TypeId} (h : Blk w g #[.int .i64 n] t) : IntsAt w w.heap.size (some ⟨g, 0, none⟩) [n] := fun k hk => by
  obtain rfl : k = 0 := by simpa using hk
  refine ⟨g, 0, rfl, h.lt, fun j hj => ?_⟩
  obtain rfl : j = 0 := by omega
  have := h.cell 0
  simpa [intC] using this
theorem fcC_len {tr : Nat} {m : MdlD} (hls : MdlLe m) {y : CrdD} (hy : y ∈ m.cards) (h : tr < y.scales.length) : (fcC tr y).length ≤ 10 := by
  rw [fcC_eq h]; exact (hls.scl y hy _ (List.getElem_mem h)).cuts
theorem ftC_len {tr : Nat} {m : MdlD} (hls : MdlLe m) {y : TreD} (hy : y ∈ m.trees) : (ftC tr y).length ≤ 20 := by
  unfold ftC nodCuts
  rw [List.length_map]
  exact Nat.le_trans (List.length_filter_le _ _) (hls.nodes y hy)
theorem nodCuts_snocR (k : Int) (l : List Nod) (n : Nod) : nodCuts k (l ++ [n]) = if n.tr = k then nodCuts k l ++ [n.cut] else nodCuts k l := by
  unfold nodCuts
  rw [List.filter_append, List.map_append]
  by_cases h : n.tr = k <;> simp [h]
/-- What is put is not too much. -/
theorem stepsI_fit (lo hi : Int) (cs : List Int) (h : cs.length ≤ 1000) : (stepsI lo hi cs).length ≤ 100000 ∧ stepsI lo hi cs ≠ [] := by
  have := stepsI_lenR lo hi cs [lo] (by simp)
  simp only [List.length_singleton] at this
  exact ⟨by unfold stepsI; omega, this.2⟩

/-- The steps, in new memory. -/
def StepS (w : World) (l : List Int) (e : Ending) (w' : World) : Prop :=
  ∃ A' c', e = .returned (.slice A' l.length c') ∧ IntsAt w' w'.heap.size A' l ∧ l.length ≤ c' ∧ Below w.heap.size w w' ∧ ∀ ad, A' = some ad → w.heap.size ≤ ad.block

set_option maxRecDepth 100000 in
set_option maxHeartbeats 8000000 in
theorem steps6_any (traits need : Int) (cl : List CrdD) (tl : List TreD) (C T : Option Addr) (c t : Nat) (tr : Nat) (lo hi : Int) (w : World) (h : MdlAt w w.heap.size ⟨traits, cl, C, c, tl, T, t, need⟩) (hls : MdlLe ⟨traits, cl, C, c, tl, T, t, need⟩) (htr : ∀ y ∈ cl, tr < y.scales.length) :
    Calls Try.prog 33 #[.agg #[.int .i64 traits, .slice C cl.length c, .slice T tl.length t, .int .i64 need], .int .i64 tr, .agg #[.int .i64 lo, .int .i64 hi]] w (StepS w (stepsI lo hi (cutsT ⟨traits, cl.map CrdD.v, tl.map TreD.v, need⟩ tr))) := by
  rw [cutsT_eq]
  have b1 := (Below.refl w.heap.size w).alloc (Nat.le_refl _) (.cells #[.int .i64 traits, .slice C cl.length c, .slice T tl.length t, .int .i64 need] 25)
  have k1 := Blk.new w #[.int .i64 traits, .slice C cl.length c, .slice T tl.length t, .int .i64 need] 25
  have b2 := b1.alloc b1.size (.cells #[.int .i64 lo, .int .i64 hi] 45)
  have ks := newAt' (w.alloc (.cells #[.int .i64 traits, .slice C cl.length c, .slice T tl.length t, .int .i64 need] 25)) #[.int .i64 lo, .int .i64 hi] 45 (g := w.heap.size + 1) (by simp)
  have b3 := b2.alloc b2.size (.cells #[.int .i64 lo] 3)
  have ko := newAt' ((w.alloc (.cells #[.int .i64 traits, .slice C cl.length c, .slice T tl.length t, .int .i64 need] 25)).alloc (.cells #[.int .i64 lo, .int .i64 hi] 45)) #[.int .i64 lo] 3 (g := w.heap.size + 1 + 1) (by simp)
  have km := (k1.alloc (.cells #[.int .i64 lo, .int .i64 hi] 45)).alloc (.cells #[.int .i64 lo] 3)
  have kp := ks.alloc (.cells #[.int .i64 lo] 3)
  have k1c := k1.cell
  have ksc := ks.cell
  have h3 := h.later b3
  have HFc := Lib.hid (fun y hy => fcC_len (tr := tr) (m := ⟨traits, cl, C, c, tl, T, t, need⟩) hls (y := y) hy (htr y hy))
  have HFt := Lib.hid (fun y hy => ftC_len (tr := tr) (m := ⟨traits, cl, C, c, tl, T, t, need⟩) hls (y := y) hy)
  have LC := hls.cards
  have LT := hls.trees
  dsimp only at LC LT
  have HS := Lib.hid (fun y hy (s : SclD) hs => (hls.scl y hy s hs).cuts)
  have HN := Lib.hid (fun y hy => hls.nodes y hy)
  have HSl := Lib.hid (fun y hy => hls.scales y hy)
  clear h hls b1 b2
  go_enter Try.func33, Try.ntmps33
  go_wp2_with fail
  generalize hW : ((w.alloc (.cells #[.int .i64 traits, .slice C cl.length c, .slice T tl.length t, .int .i64 need] 25)).alloc (.cells #[.int .i64 lo, .int .i64 hi] 45)).alloc (.cells #[.int .i64 lo] 3) = W2 at *
  have gm := km.lt
  have gp := kp.lt
  clear hW k1 ks k1c ksc
  go_loopw [7, 8] (fun oo ii wr => ∃ (i : Nat) (A : Option Addr) (a : Nat) (l : List Int), i ≤ cl.length ∧ oo = .slice A l.length a ∧ ii = .int .i64 i ∧ Hid (l = stepsI lo hi ((cl.take i).flatMap (fcC tr))) ∧ Hid (IntsAt wr wr.heap.size A l ∧ l.length ≤ a ∧ Below W2.heap.size W2 wr ∧ (∀ ad, A = some ad → w.heap.size ≤ ad.block))) (fun _ ii _ => cl.length - (vInt ii).toNat)
  case atStart => exact ⟨0, some ⟨w.heap.size + 1 + 1, 0, none⟩, 1, [lo], Nat.zero_le _, rfl, rfl, Lib.hid (by simp [stepsI]), Lib.hid ⟨ints_blk ko, by simp, Below.refl _ _, fun ad e => by cases e; show w.heap.size ≤ w.heap.size + 1 + 1; omega⟩⟩
  case round =>
    obtain ⟨i, A, a, l, hil0, rfl, rfl, hL, hR⟩ := hrel
    by_cases hlt : i < cl.length
    · have hB := hR.out.2.2.1
      have kmr := (km.below hB gm).cell
      have hil : (i : Int) < (cl.length : Int) := by omega
      have hmem := List.getElem_mem hlt
      obtain ⟨b, off, rfl, hb, _, _, c2⟩ := crds_at h3.cards.row hlt
      have htl := htr _ hmem
      obtain ⟨b', off', hSA, hb', c3, _, _⟩ := scls_at (h3.cards.each _ hmem).row htl
      have hcu := ((h3.cards.each _ hmem).each _ (List.getElem_mem htl)).cuts
      have hfc := fcC_eq htl
      have HT : Hid ((cl.take (i + 1)).flatMap (fcC tr) = (cl.take i).flatMap (fcC tr) ++ (cl[i].scales[tr]).v.cuts) := Lib.hid (by rw [List.take_succ_eq_append_getElem hlt, List.flatMap_append, List.flatMap_singleton, hfc])
      have hpl : ((cl.take i).flatMap (fcC tr)).length ≤ 60 := by
        have := flatMap_leR (l := cl.take i) (f := fcC tr) (b := 10) (fun x hx => HFc.out x (List.mem_of_mem_take hx))
        rw [List.length_take] at this
        have : min i cl.length ≤ 6 := by omega
        omega
      have hcl := HS.out _ hmem _ (List.getElem_mem htl)
      have hts := HSl.out _ hmem
      have htl2 : (tr : Int) < (cl[i].scales.length : Int) := by omega
      rw [hSA] at c2
      have HPl := Lib.hid hpl
      generalize hq : (cl.take i).flatMap (fcC tr) = pre at *
      clear hfc hmem hq hpl hts
      generalize cl[i].scales[tr] = z at *
      generalize cl[i].scales.length = n at *
      generalize cl[i].s = s at *
      clear hSA
      have c2r := (hB.cell (p := ⟨b, off + i * 3 + 2, none⟩) hb).trans c2
      have c3r := (hB.cell (p := ⟨b', off' + tr * 3, none⟩) hb').trans c3
      go_wp2_with fail
      go_loopw [7, 9] (fun oo ii wq => ∃ (k : Nat) (A : Option Addr) (a : Nat) (l : List Int), k ≤ z.v.cuts.length ∧ oo = .slice A l.length a ∧ ii = .int .i64 k ∧ Hid (l = stepsI lo hi (pre ++ z.v.cuts.take k)) ∧ Hid (IntsAt wq wq.heap.size A l ∧ l.length ≤ a ∧ Below W2.heap.size W2 wq ∧ (∀ ad, A = some ad → w.heap.size ≤ ad.block))) (fun _ ii _ => z.v.cuts.length - (vInt ii).toNat)
      case atStart => exact ⟨0, A, a, l, Nat.zero_le _, rfl, rfl, Lib.hid (by rw [hL.out]; simp), hR⟩
      case round =>
        clear hL hR hB kmr c2r c3r
        obtain ⟨k, A1, a1, l1, hk0, rfl, rfl, hL, hR⟩ := hrel
        have hB := hR.out.2.2.1
        have kmr := (km.below hB gm).cell
        have kpr := (kp.below hB gp).cell
        have c2r := (hB.cell (p := ⟨b, off + i * 3 + 2, none⟩) hb).trans c2
        have c3r := (hB.cell (p := ⟨b', off' + tr * 3, none⟩) hb').trans c3
        by_cases hkl : k < z.v.cuts.length
        · have hkl2 : (k : Int) < (z.v.cuts.length : Int) := by omega
          obtain ⟨bx, offx, hZA, hbx, cx⟩ := ints_at hcu hkl
          rw [hZA] at c3r
          have cxr := (hB.cell (p := ⟨bx, offx + k, none⟩) hbx).trans cx
          have HT1 : Hid (stepsI lo hi (pre ++ z.v.cuts.take (k + 1)) = if spanIn lo hi z.v.cuts[k] = true then putI l1 z.v.cuts[k] else l1) := Lib.hid (by rw [List.take_succ_eq_append_getElem hkl, ← List.append_assoc, stepsI_snoc, ← hL.out])
          have hfit := stepsI_fit lo hi (pre ++ z.v.cuts.take k) (by have := HPl.out; rw [List.length_append, List.length_take]; omega)
          rw [← hL.out] at hfit
          have HPut := Lib.hid (put6_any l1 z.v.cuts[k] A1 a1 _ hR.out.1 hfit.2 hfit.1 hR.out.2.1)
          clear hfit cx
          generalize z.v.cuts[k] = x at *
          generalize hzl : z.v.cuts.length = zn at *
          by_cases q1 : lo < x
          · by_cases q2 : x ≤ hi
            · have HJ : Hid (stepsI lo hi (pre ++ z.v.cuts.take (k + 1)) = putI l1 x) := Lib.hid (by rw [HT1.out, if_pos (by unfold spanIn; simp [q1, q2])])
              clear HT1 hL
              go_wp2_with (go_at_call 53; (with_reducible refine (HPut.out).mono ?_); rintro e w8 ⟨A8, c8, rfl, hA8, hc8, h8, f8⟩)
              go_roundw
              case rel => exact ⟨k + 1, A8, c8, _, by omega, rfl, by go_num, Lib.hid HJ.out.symm, Lib.hid ⟨hA8, hc8, hB.trans (h8.mono hB.size), fun ad e => f8.elim (fun q => hR.out.2.2.2 ad (q ▸ e)) (fun q => Nat.le_trans (Nat.le_trans b3.size hB.size) (q ad e))⟩⟩
              case measure => simp [vInt]; omega
            · have HJ : Hid (stepsI lo hi (pre ++ z.v.cuts.take (k + 1)) = l1) := Lib.hid (by rw [HT1.out, if_neg (by unfold spanIn; simp [q2])])
              clear HT1 hL HPut
              go_wp2_with fail
              go_roundw
              case rel => exact ⟨k + 1, A1, a1, _, by omega, rfl, by go_num, Lib.hid HJ.out.symm, hR⟩
              case measure => simp [vInt]; omega
          · have HJ : Hid (stepsI lo hi (pre ++ z.v.cuts.take (k + 1)) = l1) := Lib.hid (by rw [HT1.out, if_neg (by unfold spanIn; simp [q1])])
            clear HT1 hL HPut
            go_wp2_with fail
            go_roundw
            case rel => exact ⟨k + 1, A1, a1, _, by omega, rfl, by go_num, Lib.hid HJ.out.symm, hR⟩
            case measure => simp [vInt]; omega
        · obtain rfl : k = z.v.cuts.length := by omega
          have hkl2 : ¬ (z.v.cuts.length : Int) < (z.v.cuts.length : Int) := by omega
          have HJ : Hid (l1 = stepsI lo hi ((cl.take (i + 1)).flatMap (fcC tr))) := Lib.hid (by rw [hL.out, HT.out, List.take_length])
          clear hL HT
          go_wp2_with fail
          go_roundw
          case rel => exact ⟨i + 1, A1, a1, l1, by omega, rfl, by go_num, HJ, hR⟩
          case measure => simp [vInt]; omega
    · have hil : ¬ (i : Int) < (cl.length : Int) := by omega
      obtain rfl : i = cl.length := by omega
      have hB := hR.out.2.2.1
      have kmr := (km.below hB gm).cell
      have HL : Hid (l = stepsI lo hi (cl.flatMap (fcC tr))) := Lib.hid (by rw [hL.out, List.take_length])
      have hpl : (cl.flatMap (fcC tr)).length ≤ 60 := by
        have := flatMap_leR (l := cl) (f := fcC tr) (b := 10) HFc.out
        omega
      have HPl := Lib.hid hpl
      clear hL hpl htr
      generalize cl.flatMap (fcC tr) = pre0 at *
      go_wp2_with fail
      clear kmr
      go_loopw [7, 11] (fun oo ii wr => ∃ (i : Nat) (A : Option Addr) (a : Nat) (l : List Int), i ≤ tl.length ∧ oo = .slice A l.length a ∧ ii = .int .i64 i ∧ Hid (l = stepsI lo hi (pre0 ++ (tl.take i).flatMap (ftC tr))) ∧ Hid (IntsAt wr wr.heap.size A l ∧ l.length ≤ a ∧ Below W2.heap.size W2 wr ∧ (∀ ad, A = some ad → w.heap.size ≤ ad.block))) (fun _ ii _ => tl.length - (vInt ii).toNat)
      case atStart => exact ⟨0, A, a, l, Nat.zero_le _, rfl, rfl, Lib.hid (by rw [HL.out]; simp), hR⟩
      case round =>
        clear HL hR hB
        obtain ⟨i, A, a, l, hil0, rfl, rfl, hL, hR⟩ := hrel
        have hB := hR.out.2.2.1
        have kmr := (km.below hB gm).cell
        by_cases hlt : i < tl.length
        · have hil : (i : Int) < (tl.length : Int) := by omega
          have hmem := List.getElem_mem hlt
          obtain ⟨b, off, rfl, hb, _, c1⟩ := tres_at h3.trees.row hlt
          have hnd := h3.trees.each _ hmem
          have HT : Hid ((tl.take (i + 1)).flatMap (ftC tr) = (tl.take i).flatMap (ftC tr) ++ nodCuts (tr : Int) tl[i].v.nodes) := Lib.hid (by rw [List.take_succ_eq_append_getElem hlt, List.flatMap_append, List.flatMap_singleton]; rfl)
          have hpl : ((tl.take i).flatMap (ftC tr)).length ≤ 120 := by
            have := flatMap_leR (l := tl.take i) (f := ftC tr) (b := 20) (fun x hx => HFt.out x (List.mem_of_mem_take hx))
            rw [List.length_take] at this
            have : min i tl.length ≤ 6 := by omega
            omega
          have hnl := HN.out _ hmem
          have HPl2 := Lib.hid hpl
          generalize hq : (tl.take i).flatMap (ftC tr) = pre at *
          clear hmem hq hpl
          generalize tl[i].v.nodes = z at *
          generalize tl[i].T = TA at *
          generalize tl[i].t = s at *
          have c1r := (hB.cell (p := ⟨b, off + i * 2 + 1, none⟩) hb).trans c1
          go_wp2_with fail
          go_loopw [7, 12] (fun oo ii wq => ∃ (k : Nat) (A : Option Addr) (a : Nat) (l : List Int), k ≤ z.length ∧ oo = .slice A l.length a ∧ ii = .int .i64 k ∧ Hid (l = stepsI lo hi (pre0 ++ pre ++ nodCuts (tr : Int) (z.take k))) ∧ Hid (IntsAt wq wq.heap.size A l ∧ l.length ≤ a ∧ Below W2.heap.size W2 wq ∧ (∀ ad, A = some ad → w.heap.size ≤ ad.block))) (fun _ ii _ => z.length - (vInt ii).toNat)
          case atStart => exact ⟨0, A, a, l, Nat.zero_le _, rfl, rfl, Lib.hid (by rw [hL.out]; simp [nodCuts]), hR⟩
          case round =>
            clear hL hR hB kmr c1r
            obtain ⟨k, A1, a1, l1, hk0, rfl, rfl, hL, hR⟩ := hrel
            have hB := hR.out.2.2.1
            have kmr := (km.below hB gm).cell
            have c1r := (hB.cell (p := ⟨b, off + i * 2 + 1, none⟩) hb).trans c1
            by_cases hkl : k < z.length
            · have hkl2 : (k : Int) < (z.length : Int) := by omega
              obtain ⟨bx, offx, rfl, hbx, d0, d1, d2, d3, d4⟩ := nods_at hnd hkl
              have e0 := (hB.cell (p := ⟨bx, offx + k * 5, none⟩) hbx).trans d0
              have e1 := (hB.cell (p := ⟨bx, offx + k * 5 + 1, none⟩) hbx).trans d1
              have e2 := (hB.cell (p := ⟨bx, offx + k * 5 + 2, none⟩) hbx).trans d2
              have e3 := (hB.cell (p := ⟨bx, offx + k * 5 + 3, none⟩) hbx).trans d3
              have e4 := (hB.cell (p := ⟨bx, offx + k * 5 + 4, none⟩) hbx).trans d4
              have HT1 : Hid (stepsI lo hi (pre0 ++ pre ++ nodCuts (tr : Int) (z.take (k + 1))) = if z[k].tr = (tr : Int) then (if spanIn lo hi z[k].cut = true then putI l1 z[k].cut else l1) else l1) := Lib.hid (by
                rw [List.take_succ_eq_append_getElem hkl, nodCuts_snocR]
                by_cases h : z[k].tr = (tr : Int)
                · rw [if_pos h, if_pos h, ← List.append_assoc, stepsI_snoc, ← hL.out]
                · rw [if_neg h, if_neg h, ← hL.out])
              have hnk : (nodCuts (tr : Int) (z.take k)).length ≤ 20 := by
                unfold nodCuts
                rw [List.length_map]
                refine Nat.le_trans (List.length_filter_le _ _) ?_
                rw [List.length_take]; omega
              have hfit := stepsI_fit lo hi (pre0 ++ pre ++ nodCuts (tr : Int) (z.take k)) (by have := HPl.out; have := HPl2.out; rw [List.length_append, List.length_append]; omega)
              rw [← hL.out] at hfit
              have ba := (Below.refl wr.heap.size wr).alloc (Nat.le_refl _) (.cells #[.int .i64 z[k].tr, .int .i64 z[k].cut, .int .i64 z[k].low, .int .i64 z[k].high, .int .i64 z[k].pts] 74)
              have HPut := Lib.hid (put6_any l1 z[k].cut A1 a1 _ (hR.out.1.later ba) hfit.2 hfit.1 hR.out.2.1)
              have hBa := hB.trans (ba.mono hB.size)
              have kn := Blk.new wr #[.int .i64 z[k].tr, .int .i64 z[k].cut, .int .i64 z[k].low, .int .i64 z[k].high, .int .i64 z[k].pts] 74
              have knc := kn.cell
              have kpr := ((kp.below hB gp).alloc (.cells #[.int .i64 z[k].tr, .int .i64 z[k].cut, .int .i64 z[k].low, .int .i64 z[k].high, .int .i64 z[k].pts] 74)).cell
              have HRa := Lib.hid (hR.out.1.later ba)
              have HCa := Lib.hid hR.out.2.1
              have HFa := Lib.hid hR.out.2.2.2
              clear hfit d0 d1 d2 d3 d4 hnk ba kn hR hB
              generalize z[k] = x at *
              generalize hzl : z.length = zn at *
              by_cases q0 : x.tr = (tr : Int)
              · have q0b : (x.tr == (tr : Int)) = true := by simp [q0]
                by_cases q1 : lo < x.cut
                · by_cases q2 : x.cut ≤ hi
                  · have HJ : Hid (stepsI lo hi (pre0 ++ pre ++ nodCuts (tr : Int) (z.take (k + 1))) = putI l1 x.cut) := Lib.hid (by rw [HT1.out, if_pos q0, if_pos (by unfold spanIn; simp [q1, q2])])
                    clear HT1 hL q0
                    go_wp2_with (go_at_call 53; (with_reducible refine (HPut.out).mono ?_); rintro e w8 ⟨A8, c8, rfl, hA8, hc8, h8, f8⟩)
                    go_roundw
                    case rel => exact ⟨k + 1, A8, c8, _, by omega, rfl, by go_num, Lib.hid HJ.out.symm, Lib.hid ⟨hA8, hc8, hBa.trans (h8.mono hBa.size), fun ad e => f8.elim (fun q => HFa.out ad (q ▸ e)) (fun q => Nat.le_trans (Nat.le_trans b3.size hBa.size) (q ad e))⟩⟩
                    case measure => simp [vInt]; omega
                  · have HJ : Hid (stepsI lo hi (pre0 ++ pre ++ nodCuts (tr : Int) (z.take (k + 1))) = l1) := Lib.hid (by rw [HT1.out, if_pos q0, if_neg (by unfold spanIn; simp [q2])])
                    clear HT1 hL HPut q0
                    go_wp2_with fail
                    go_roundw
                    case rel => exact ⟨k + 1, A1, a1, _, by omega, rfl, by go_num, Lib.hid HJ.out.symm, Lib.hid ⟨HRa.out, HCa.out, hBa, HFa.out⟩⟩
                    case measure => simp [vInt]; omega
                · have HJ : Hid (stepsI lo hi (pre0 ++ pre ++ nodCuts (tr : Int) (z.take (k + 1))) = l1) := Lib.hid (by rw [HT1.out, if_pos q0, if_neg (by unfold spanIn; simp [q1])])
                  clear HT1 hL HPut q0
                  go_wp2_with fail
                  go_roundw
                  case rel => exact ⟨k + 1, A1, a1, _, by omega, rfl, by go_num, Lib.hid HJ.out.symm, Lib.hid ⟨HRa.out, HCa.out, hBa, HFa.out⟩⟩
                  case measure => simp [vInt]; omega
              · have q0b : (x.tr == (tr : Int)) = false := by simpa using q0
                have HJ : Hid (stepsI lo hi (pre0 ++ pre ++ nodCuts (tr : Int) (z.take (k + 1))) = l1) := Lib.hid (by rw [HT1.out, if_neg q0])
                clear HT1 hL HPut q0
                go_wp2_with fail
                go_roundw
                case rel => exact ⟨k + 1, A1, a1, _, by omega, rfl, by go_num, Lib.hid HJ.out.symm, Lib.hid ⟨HRa.out, HCa.out, hBa, HFa.out⟩⟩
                case measure => simp [vInt]; omega
            · obtain rfl : k = z.length := by omega
              have hkl2 : ¬ (z.length : Int) < (z.length : Int) := by omega
              have HJ : Hid (l1 = stepsI lo hi (pre0 ++ (tl.take (i + 1)).flatMap (ftC tr))) := Lib.hid (by rw [hL.out, HT.out, List.take_length, List.append_assoc])
              clear hL HT
              go_wp2_with fail
              go_roundw
              case rel => exact ⟨i + 1, A1, a1, l1, by omega, rfl, by go_num, HJ, hR⟩
              case measure => simp [vInt]; omega
        · have hil : ¬ (i : Int) < (tl.length : Int) := by omega
          obtain rfl : i = tl.length := by omega
          have HJ : Hid (l = stepsI lo hi (pre0 ++ tl.flatMap (ftC tr))) := Lib.hid (by rw [hL.out, List.take_length])
          clear hL
          go_wp2_with fail
          go_ret
          exact ⟨A, a, by rw [← HJ.out]; rfl, by rw [← HJ.out]; exact hR.out.1, by rw [← HJ.out]; exact hR.out.2.1, b3.trans (hR.out.2.2.1.mono b3.size), hR.out.2.2.2⟩
end Go.Proofs.Ytijhbcmmoagdmaa

namespace Go.Proofs.Ytijhbcmmoagdmaa
open Go.RowKit Go.Maps

def dg (l : List Nat) : Array Value := (l.map fun (k : Nat) => Value.int .i64 (k : Int)).toArray
theorem dg_at {l : List Nat} {i : Nat} (h : i < l.length) : (dg l)[i]? = some (.int .i64 (l[i] : Int)) := by
  unfold dg; simp [h]
theorem dg_set (l : List Nat) (i n : Nat) : (dg l).setIfInBounds i (.int .i64 (n : Int)) = dg (l.set i n) := by
  unfold dg; simp [List.map_set]
theorem nextD_up : ∀ (i : Nat) (ns d e : List Nat), i ≤ ns.length → ns.length = d.length → nextD (ns.drop i) (d.drop i) = (true, e) → nextD ns d = (true, d.take i ++ e)
  | 0, _, _, _, _, _, h => h
  | i + 1, [], _, _, hi, _, _ => by simp at hi
  | i + 1, _ :: _, [], _, _, hl, _ => by simp at hl
  | i + 1, n :: ns, a :: d, e, hi, hl, h => by
    have := nextD_up i ns d e (by simpa using hi) (by simpa using hl) (by simpa using h)
    unfold nextD
    rw [this]
    rfl
theorem nextD_here {ns d z : List Nat} {i : Nat} (hn : i < ns.length) (hd : i < d.length) (h : nextD (ns.drop (i + 1)) (d.drop (i + 1)) = (false, z)) :
    nextD (ns.drop i) (d.drop i) = if d[i] + 1 < ns[i] then (true, (d[i] + 1) :: z) else (false, 0 :: z) := by
  rw [List.drop_eq_getElem_cons hn, List.drop_eq_getElem_cons hd]
  unfold nextD
  rw [h]
theorem mid_at {d z : List Nat} {i : Nat} (hd : i < d.length) : (d.take (i + 1) ++ z)[i]? = some d[i] := by
  rw [List.getElem?_append_left (by rw [List.length_take]; omega), List.getElem?_take]
  simp [hd]
theorem mid_set {d z : List Nat} {i : Nat} (hd : i < d.length) (n : Nat) : (d.take (i + 1) ++ z).set i n = d.take i ++ n :: z := by
  rw [List.take_succ_eq_append_getElem hd, List.append_assoc, List.set_append_right _ _ (by rw [List.length_take]; omega)]
  simp [List.length_take, Nat.min_eq_left (Nat.le_of_lt hd)]
theorem mid_set2 {d z : List Nat} {i : Nat} (hd : i < d.length) (m n : Nat) : (d.take i ++ m :: z).set i n = d.take i ++ n :: z := by
  rw [List.set_append_right _ _ (by rw [List.length_take]; omega)]
  simp [List.length_take, Nat.min_eq_left (Nat.le_of_lt hd)]

/-- The next digits in place. -/
def NextS (w : World) (g : Nat) (t : TypeId) (ns d : List Nat) (e : Ending) (w' : World) : Prop :=
  ∃ b d', e = .returned (.bool b) ∧ nextD ns d = (b, d') ∧ Blk w' g (dg d') t ∧ Kpt (fun x => x ≠ g) w w' ∧ Below g w w'

set_option maxRecDepth 100000 in
set_option maxHeartbeats 8000000 in
theorem next6_any (g : Nat) (t : TypeId) (ns d : List Nat) (LA : Option Addr) (ac lc : Nat) (w : World) (hl : ns.length = d.length) (hT : d.length ≤ 1000) (hd : ∀ k ∈ d, k ≤ 100000) (k1 : Blk w g (dg d) t)
    (Hc : ∀ i (h : i < ns.length), ∃ b off A a, LA = some ⟨b, off, none⟩ ∧ b < w.heap.size ∧ b ≠ g ∧ w.cell? ⟨b, off + i, none⟩ = some (.slice A ns[i] a)) :
    Calls Try.prog 34 #[.slice (some ⟨g, 0, none⟩) d.length ac, .slice LA ns.length lc] w (NextS w g t ns d) := by
  have HC := Lib.hid Hc
  have HD := Lib.hid hd
  have hw0 : IntKind.i64.wrap ((d.length : Int) - 1) = (d.length : Int) - 1 := IntWalk.i64_in _ (by omega)
  clear Hc hd
  rw [hl]
  go_enter Try.func34, Try.ntmps34
  go_wp2_with fail
  go_loopw [5] (fun ii wr => ∃ (j : Nat) (jj : Int) (z : List Nat), j ≤ d.length ∧ ii = .int .i64 jj ∧ Hid (jj = (j : Int) - 1) ∧ Hid (nextD (ns.drop j) (d.drop j) = (false, z)) ∧ Hid (Blk wr g (dg (d.take j ++ z)) t ∧ Kpt (fun x => x ≠ g) w wr ∧ Below g w wr)) (fun ii _ => (vInt ii + 1).toNat)
  case atStart => exact ⟨d.length, _, [], Nat.le_refl _, rfl, Lib.hid rfl, Lib.hid (by rw [← hl, List.drop_length, hl, List.drop_length]; rfl), Lib.hid ⟨by rw [List.take_length, List.append_nil]; exact k1, Kpt.refl _ _, Below.refl _ _⟩⟩
  case round =>
    obtain ⟨j, jj, z, hj, rfl, hJ, hN, hR⟩ := hrel
    by_cases hj0 : j = 0
    · subst hj0
      have hjj : jj = -1 := by have := hJ.out; omega
      subst hjj
      have HV : Hid (nextD ns d = (false, z)) := Lib.hid hN.out
      clear hN hJ
      go_wp2_with fail
      go_ret
      exact ⟨false, z, rfl, HV.out, by simpa using hR.out.1, hR.out.2⟩
    · obtain ⟨i, rfl⟩ : ∃ i, j = i + 1 := ⟨j - 1, by omega⟩
      have hjj : jj = (i : Int) := by have := hJ.out; omega
      subst hjj
      have hlt : i < d.length := by omega
      have hil : (i : Int) < (d.length : Int) := by omega
      have hin : i < ns.length := by omega
      have hge : (0 : Int) ≤ (i : Int) := by omega
      obtain ⟨b, off, A, a, rfl, hb, hbg, c0⟩ := HC.out i hin
      have km := hR.out.1
      have hcl : i < (d.take (i + 1) ++ z).length := by rw [List.length_append, List.length_take]; omega
      have a0 := (km.cell i).trans (dg_at hcl)
      have hgi : (d.take (i + 1) ++ z)[i] = d[i] := by have := mid_at (z := z) hlt; rw [List.getElem?_eq_getElem hcl] at this; exact Option.some.inj this
      rw [hgi] at a0
      have f0 := km.free i
      have hdb := HD.out _ (List.getElem_mem hlt)
      have hw1 : IntKind.i64.wrap ((d[i] : Int) + 1) = (d[i] : Int) + 1 := IntWalk.i64_in _ (by omega)
      have hw2 : IntKind.i64.wrap ((i : Int) - 1) = (i : Int) - 1 := IntWalk.i64_in _ (by omega)
      have ks : Blk (wr.setCell ⟨g, i, none⟩ (.int .i64 ((d[i] : Int) + 1))) g (dg (d.take i ++ (d[i] + 1) :: z)) t := by
        have := km.set i (.int .i64 ((d[i] + 1 : Nat) : Int))
        rw [dg_set, mid_set hlt] at this
        exact this
      have kq : Kpt (fun x => x ≠ g) w (wr.setCell ⟨g, i, none⟩ (.int .i64 ((d[i] : Int) + 1))) := hR.out.2.1.trans (Kpt.set (p := ⟨g, i, none⟩) (fun h => h rfl) _)
      have KB := Lib.hid (hR.out.2.2.setCell (p := ⟨g, i, none⟩) (Nat.le_refl _) (.int .i64 ((d[i] : Int) + 1)))
      have a1 := (ks.cell i)
      have hc2 : i < (d.take i ++ (d[i] + 1) :: z).length := by rw [List.length_append, List.length_take, List.length_cons]; omega
      rw [dg_at hc2, show (d.take i ++ (d[i] + 1) :: z)[i] = d[i] + 1 from by rw [List.getElem_append_right (by rw [List.length_take]; omega)]; simp [List.length_take, Nat.min_eq_left (Nat.le_of_lt hlt)]] at a1
      have f1 := ks.free i
      have c1 := (kq.cell hb hbg).trans c0
      have HT := Lib.hid (nextD_here hin hlt hN.out)
      have KS := Lib.hid ks
      have KQ := Lib.hid kq
      have HU : Hid (∀ x, nextD (ns.drop i) (d.drop i) = (true, x) → nextD ns d = (true, d.take i ++ x)) := Lib.hid (fun x => nextD_up i ns d x (by omega) hl)
      have HZ : Hid (∀ m : Nat, (d.take i ++ m :: z).set i 0 = d.take i ++ 0 :: z) := Lib.hid (fun m => mid_set2 hlt m 0)
      have hcast : ((d[i] + 1 : Nat) : Int) = (d[i] : Int) + 1 := by omega
      rw [hcast] at a1
      clear km ks kq hN hR hJ hgi hcl hc2 hj0 hdb c0 hcast
      generalize d[i] = x at *
      generalize ns[i] = n at *
      go_wp2_with fail
      by_cases hq : (x : Int) + 1 < (n : Int)
      · have HV : Hid (nextD ns d = (true, d.take i ++ (x + 1) :: z)) := Lib.hid (HU.out _ (by rw [HT.out, if_pos (by omega)]))
        clear HT HU
        go_region
        all_goals go_wp2_with fail
        all_goals go_ret
        all_goals exact ⟨true, _, rfl, HV.out, KS.out.drew, KQ.out.trans (Kpt.of_all (Below.refl _ _).drew), KB.out.drew⟩
      · have HV : Hid (nextD (ns.drop i) (d.drop i) = (false, 0 :: z)) := Lib.hid (by rw [HT.out, if_neg (by omega)])
        clear HT HU
        go_region
        all_goals go_wp2_with fail
        all_goals go_roundw
        all_goals first
          | exact ⟨i, (i : Int) - 1, 0 :: z, by omega, by go_num, Lib.hid rfl, HV, Lib.hid ⟨by have := (KS.out.drew).set i (.int .i64 ((0 : Nat) : Int)); rw [dg_set, HZ.out] at this; exact this, (KQ.out.trans (Kpt.of_all (Below.refl _ _).drew)).trans (Kpt.set (p := ⟨g, i, none⟩) (fun h => h rfl) _), KB.out.drew.setCell (p := ⟨g, i, none⟩) (Nat.le_refl _) _⟩⟩
          | (simp [vInt]; done)
          | (simp [vInt]; omega)
end Go.Proofs.Ytijhbcmmoagdmaa

namespace Go.Proofs.Ytijhbcmmoagdmaa
open Go.RowKit Go.Maps

set_option maxRecDepth 100000 in
set_option maxHeartbeats 4000000 in
theorem betR_bad (traits need : Int) (cl : List CrdD) (tl : List TreD) (C T : Option Addr) (c t : Nat) (sp : List Spn) (SA : Option Addr) (sc : Nat) (w : World) (h : MdlAt w w.heap.size ⟨traits, cl, C, c, tl, T, t, need⟩) (hls : MdlLe ⟨traits, cl, C, c, tl, T, t, need⟩) (hq : mdlB ⟨traits, cl.map CrdD.v, tl.map TreD.v, need⟩ = false) :
    Calls Try.prog 16 #[.agg #[.int .i64 traits, .slice C cl.length c, .slice T tl.length t, .int .i64 need], .slice SA sp.length sc] w fun e w' => e = .returned (.tuple #[.agg #[.int .i64 0, .int .i64 0], .int .i64 60]) ∧ Below w.heap.size w w' := by
  have b1 := (Below.refl w.heap.size w).alloc (Nat.le_refl _) (.cells #[.int .i64 traits, .slice C cl.length c, .slice T tl.length t, .int .i64 need] 25)
  have b2 := b1.alloc b1.size (.cells #[.int .i64 0, .int .i64 0] 45)
  have km := (Blk.new w #[.int .i64 traits, .slice C cl.length c, .slice T tl.length t, .int .i64 need] 25).alloc (.cells #[.int .i64 0, .int .i64 0] 45)
  have kr := newAt' (w.alloc (.cells #[.int .i64 traits, .slice C cl.length c, .slice T tl.length t, .int .i64 need] 25)) #[.int .i64 0, .int .i64 0] 45 (g := w.heap.size + 1) (by simp)
  have kmc := km.cell
  have HC := Lib.hid (check6_all traits need cl tl C T c t _ (h.later b2) hls)
  have gm := km.lt
  have gr := kr.lt
  have hf : mdlE ⟨traits, cl.map CrdD.v, tl.map TreD.v, need⟩ = 60 := by unfold mdlE; rw [if_neg (by rw [hq]; simp)]
  rw [hf] at HC
  clear h hls hf b1
  go_enter Try.func16, Try.ntmps16
  go_upto_region 1 with fail
  generalize hW : (w.alloc (.cells #[.int .i64 traits, .slice C cl.length c, .slice T tl.length t, .int .i64 need] 25)).alloc (.cells #[.int .i64 0, .int .i64 0] 45) = W2 at *
  clear hW
  have b2s := b2.size
  go_wp2_with (go_at_call 12; (with_reducible refine (HC.out).mono ?_); rintro e w3 ⟨rfl, h3⟩; have b3 := b2.trans (h3.mono b2s); have km3 := km.below h3 gm; have km3c := km3.cell; have kr3 := kr.below h3 gr; have kr3c := kr3.cell; have z0 := kr3.free 0; have z1 := kr3.free 1)
  have hrc := (sp_put (c0 := .int .i64 0) (c1 := .int .i64 0) kr3).cell
  exact bodyPost_ret (v := .tuple #[.agg #[.int .i64 0, .int .i64 0], .int .i64 60]) (by simp [results, Try.results16, go_sem, hrc]) rfl ⟨rfl, (b3.setCell (p := ⟨w.heap.size + 1, 0, none⟩) (by simp) _).setCell (p := ⟨w.heap.size + 1, 1, none⟩) (by simp) _⟩

set_option maxRecDepth 100000 in
set_option maxHeartbeats 4000000 in
theorem betR_len (traits need : Int) (cl : List CrdD) (tl : List TreD) (C T : Option Addr) (c t : Nat) (sp : List Spn) (SA : Option Addr) (sc : Nat) (w : World) (h : MdlAt w w.heap.size ⟨traits, cl, C, c, tl, T, t, need⟩) (hls : MdlLe ⟨traits, cl, C, c, tl, T, t, need⟩) (hq : mdlB ⟨traits, cl.map CrdD.v, tl.map TreD.v, need⟩ = true) (hn : ¬ (sp.length : Int) = traits) :
    Calls Try.prog 16 #[.agg #[.int .i64 traits, .slice C cl.length c, .slice T tl.length t, .int .i64 need], .slice SA sp.length sc] w fun e w' => e = .returned (.tuple #[.agg #[.int .i64 0, .int .i64 0], .int .i64 61]) ∧ Below w.heap.size w w' := by
  have b1 := (Below.refl w.heap.size w).alloc (Nat.le_refl _) (.cells #[.int .i64 traits, .slice C cl.length c, .slice T tl.length t, .int .i64 need] 25)
  have b2 := b1.alloc b1.size (.cells #[.int .i64 0, .int .i64 0] 45)
  have km := (Blk.new w #[.int .i64 traits, .slice C cl.length c, .slice T tl.length t, .int .i64 need] 25).alloc (.cells #[.int .i64 0, .int .i64 0] 45)
  have kr := newAt' (w.alloc (.cells #[.int .i64 traits, .slice C cl.length c, .slice T tl.length t, .int .i64 need] 25)) #[.int .i64 0, .int .i64 0] 45 (g := w.heap.size + 1) (by simp)
  have kmc := km.cell
  have HC := Lib.hid (check6_all traits need cl tl C T c t _ (h.later b2) hls)
  have gm := km.lt
  have gr := kr.lt
  have hf : mdlE ⟨traits, cl.map CrdD.v, tl.map TreD.v, need⟩ = 0 := by unfold mdlE; rw [if_pos hq]
  rw [hf] at HC
  clear h hls hf b1
  have e1 : ((sp.length : Int) != traits) = true := by simpa using hn
  clear hn hq
  go_enter Try.func16, Try.ntmps16
  go_upto_region 1 with fail
  generalize hW : (w.alloc (.cells #[.int .i64 traits, .slice C cl.length c, .slice T tl.length t, .int .i64 need] 25)).alloc (.cells #[.int .i64 0, .int .i64 0] 45) = W2 at *
  clear hW
  have b2s := b2.size
  go_wp2_with (go_at_call 12; (with_reducible refine (HC.out).mono ?_); rintro e w3 ⟨rfl, h3⟩; have b3 := b2.trans (h3.mono b2s); have km3 := km.below h3 gm; have km3c := km3.cell; have kr3 := kr.below h3 gr; have kr3c := kr3.cell; have z0 := kr3.free 0; have z1 := kr3.free 1)
  have hrc := (sp_put (c0 := .int .i64 0) (c1 := .int .i64 0) kr3).cell
  exact bodyPost_ret (v := .tuple #[.agg #[.int .i64 0, .int .i64 0], .int .i64 61]) (by simp [results, Try.results16, go_sem, hrc]) rfl ⟨rfl, (b3.setCell (p := ⟨w.heap.size + 1, 0, none⟩) (by simp) _).setCell (p := ⟨w.heap.size + 1, 1, none⟩) (by simp) _⟩

end Go.Proofs.Ytijhbcmmoagdmaa

namespace Go.Proofs.Ytijhbcmmoagdmaa
open Go.RowKit Go.Maps

theorem lsInfo : (Try.prog.info? 26).map (fun i => (i.zero, i.size, i.bytes)) = some (some (.slice none 0 0), 1, 24) := by kernel_rfl
structure LsD where
  l : List Int
  A : Option Addr
  a : Nat
def lsC (x : LsD) : List Value := [.slice x.A x.l.length x.a]
theorem sl_ones {A : Option Addr} {n c : Nat} : ∀ u ∈ [Value.slice A n c], u.oneCell' = true := fun u hu => by rw [List.mem_singleton] at hu; subst hu; rfl
theorem sl_new (w : World) (v : Value) (t : TypeId) : ∀ j u, [v][j]? = some u → (w.alloc (.cells #[v] t)).cell? ((⟨w.heap.size, 0, none⟩ : Addr).add j) = some u := fun j u hj => by
  rw [WideShapes.add_plain, Nat.zero_add]
  exact ((Blk.new w #[v] t).cell j).trans (by simpa using hj)
theorem lsC_len (x : LsD) : (lsC x).length = 1 := rfl
def LsInv (w : World) (lo : Nat) (A : Option Addr) (c n : Nat) (l : List LsD) : Prop :=
  l.length = n ∧ w.ownsRow lo 26 1 (.slice A n c) n (l.flatMap lsC) ∧ ∀ y ∈ l, FlatX 1 intC w lo (Value.slice A n c).ownBlock y.A y.l
section
variable {w w' : World} {lo : Nat} {A A' : Option Addr} {c c' n : Nat} {l : List LsD}
theorem LsInv.below (h : LsInv w lo A c n l) (hb : Below w.heap.size w w') : LsInv w' lo A c n l := ⟨h.1, own_below h.2.1 hb, fun y hy => (h.2.2 y hy).below hb⟩
theorem LsInv.lt (h : LsInv w lo A c n l) : ∀ g, (Value.slice A n c).ownBlock = some g → lo ≤ g ∧ g < w.heap.size := fun g hg => h.2.1.lt g hg
theorem LsInv.push (h : LsInv w lo A c n l) {z : LsD} (hz : FlatX 1 intC w lo (Value.slice A n c).ownBlock z.A z.l) (hown : w'.ownsRow lo 26 1 (.slice A' (n + 1) c') (n + 1) (l.flatMap lsC ++ lsC z)) (hg : w.grownBy w' (Value.slice A n c).ownBlock) (ho : (Value.slice A' (n + 1) c').ownBlock = (Value.slice A n c).ownBlock ∨ (Value.slice A' (n + 1) c').ownBlock = some w.heap.size) : LsInv w' lo A' c' (n + 1) (l ++ [z]) := by
  refine ⟨by rw [List.length_append, h.1]; rfl, by rw [List.flatMap_append]; simpa using hown, fun y hy => ?_⟩
  rcases List.mem_append.1 hy with hy | hy
  · exact (h.2.2 y hy).kept hg ho
  · rw [List.mem_singleton] at hy
    subst hy
    exact hz.kept hg ho
end

set_option maxRecDepth 100000 in
set_option maxHeartbeats 16000000 in
theorem betR_spans (traits need : Int) (cl : List CrdD) (tl : List TreD) (C T : Option Addr) (c t : Nat) (sp : List Spn) (SA : Option Addr) (sc : Nat) (w : World) (h : MdlAt w w.heap.size ⟨traits, cl, C, c, tl, T, t, need⟩) (hls : MdlLe ⟨traits, cl, C, c, tl, T, t, need⟩) (hx : SpnsAt w w.heap.size SA sp) (hxl : sp.length ≤ 10) (hq : mdlB ⟨traits, cl.map CrdD.v, tl.map TreD.v, need⟩ = true) (hn : (sp.length : Int) = traits) (hv : spnsB traits sp = false) :
    Calls Try.prog 16 #[.agg #[.int .i64 traits, .slice C cl.length c, .slice T tl.length t, .int .i64 need], .slice SA sp.length sc] w fun e w' => e = .returned (.tuple #[.agg #[.int .i64 0, .int .i64 0], .int .i64 61]) ∧ Below w.heap.size w w' := by
  have b1 := (Below.refl w.heap.size w).alloc (Nat.le_refl _) (.cells #[.int .i64 traits, .slice C cl.length c, .slice T tl.length t, .int .i64 need] 25)
  have b2 := b1.alloc b1.size (.cells #[.int .i64 0, .int .i64 0] 45)
  have km := (Blk.new w #[.int .i64 traits, .slice C cl.length c, .slice T tl.length t, .int .i64 need] 25).alloc (.cells #[.int .i64 0, .int .i64 0] 45)
  have kr := newAt' (w.alloc (.cells #[.int .i64 traits, .slice C cl.length c, .slice T tl.length t, .int .i64 need] 25)) #[.int .i64 0, .int .i64 0] 45 (g := w.heap.size + 1) (by simp)
  have kmc := km.cell
  have HC := Lib.hid (check6_all traits need cl tl C T c t _ (h.later b2) hls)
  have gm := km.lt
  have gr := kr.lt
  have hf : mdlE ⟨traits, cl.map CrdD.v, tl.map TreD.v, need⟩ = 0 := by unfold mdlE; rw [if_pos hq]
  rw [hf] at HC
  have e1 : ((sp.length : Int) != traits) = false := by simpa using hn
  have hsl : ∀ k, k < sp.length → ∀ y ∈ cl, k < y.scales.length := fun k hk y hy => by
    have h7 := crdB_parts ((mdlB_parts hq).2.2.2.2.1 _ (List.mem_map_of_mem hy))
    have h8 : (y.scales.length : Int) = traits := by have := h7.2.2.1; simpa [CrdD.v] using this
    omega
  have HSt := Lib.hid (fun W (hb : Below w.heap.size w W) k (hk : k < sp.length) lo hi => steps6_any traits need cl tl C T c t k lo hi W (h.later hb) hls (hsl k hk))
  have HX := Lib.hid (fun W (hb : Below w.heap.size w W) => hx.later hb)
  have HVa : Hid ((∀ j, j < sp.length → spnB (sp.getD j default) = true) ↔ spnsB traits sp = true) := Lib.hid (by
    unfold spnsB
    rw [Bool.and_eq_true, decide_eq_true_eq, List.all_eq_true]
    constructor
    · intro h; refine ⟨hn, fun x hx => ?_⟩
      obtain ⟨j, hj, rfl⟩ := List.getElem_of_mem hx
      have := h j hj
      rwa [getD_lt sp default hj] at this
    · rintro ⟨_, h⟩ j hj
      rw [getD_lt sp default hj]; exact h _ (List.getElem_mem hj))
  rw [hv] at HVa
  obtain ⟨i4, hi4, hq0, hq1, hq2⟩ := info_parts lsInfo
  clear h hls hf b1 hn hq hsl hx hv
  go_enter Try.func16, Try.ntmps16
  go_upto_region 1 with fail
  generalize hW : (w.alloc (.cells #[.int .i64 traits, .slice C cl.length c, .slice T tl.length t, .int .i64 need] 25)).alloc (.cells #[.int .i64 0, .int .i64 0] 45) = W2 at *
  clear hW
  have b2s := b2.size
  go_wp2_with (go_at_call 12; (with_reducible refine (HC.out).mono ?_); rintro e w3 ⟨rfl, h3⟩; have b3 := b2.trans (h3.mono b2s); have km3 := km.below h3 gm; have km3c := km3.cell; have kr3 := kr.below h3 gr; have kr3c := kr3.cell; have gm3 := km3.lt; have gr3 := kr3.lt; have hs3 := h3.size)
  generalize hgm : w.heap.size = g0 at *
  clear km kr km3c kr3c gm gr h3 HC
  go_loopw [7, 8] (fun ll ii wr => ∃ (i : Nat) (A2 : Option Addr) (c2 : Nat) (ls : List LsD), i ≤ sp.length ∧ ll = .slice A2 i c2 ∧ ii = .int .i64 i ∧ Hid (ls.map LsD.l = (List.range i).map (fun k => stepsI (sp.getD k default).lo (sp.getD k default).hi (cutsT ⟨traits, cl.map CrdD.v, tl.map TreD.v, need⟩ k)) ∧ (∀ j, j < i → spnB (sp.getD j default) = true)) ∧ Hid (LsInv wr w3.heap.size A2 c2 i ls ∧ Below w3.heap.size w3 wr)) (fun _ ii _ => sp.length - (vInt ii).toNat)
  case atStart => exact ⟨0, none, 0, [], Nat.zero_le _, rfl, rfl, Lib.hid ⟨rfl, fun j hj => absurd hj (Nat.not_lt_zero _)⟩, Lib.hid ⟨⟨rfl, ⟨rfl, .inl ⟨rfl, rfl⟩⟩, fun y hy => by cases hy⟩, Below.refl _ _⟩⟩
  case round =>
    obtain ⟨i, A2, c2, ls, hi0, rfl, rfl, hD, hR⟩ := hrel
    have hB := hR.out.2
    have kmr := km3.below hB gm3
    have krr := kr3.below hB gr3
    have kmc := kmr.cell
    have hBw := b3.trans (hB.mono (by rw [← hgm]; exact b3.size))
    by_cases hlt : i < sp.length
    · have hil : (i : Int) < (sp.length : Int) := by omega
      obtain ⟨b, off, rfl, hb, c0, c1⟩ := spns_at (HX.out _ hBw) hlt
      have hge := getD_lt sp default hlt
      have HE : Hid (spnB (sp.getD i default) = (inN sp[i].lo 0 1000000 && inN sp[i].hi sp[i].lo 1000000)) := Lib.hid (by rw [hge]; rfl)
      have HN : Hid ((List.range (i + 1)).map (fun k => stepsI (sp.getD k default).lo (sp.getD k default).hi (cutsT ⟨traits, cl.map CrdD.v, tl.map TreD.v, need⟩ k)) = (List.range i).map (fun k => stepsI (sp.getD k default).lo (sp.getD k default).hi (cutsT ⟨traits, cl.map CrdD.v, tl.map TreD.v, need⟩ k)) ++ [stepsI sp[i].lo sp[i].hi (cutsT ⟨traits, cl.map CrdD.v, tl.map TreD.v, need⟩ i)]) := Lib.hid (by rw [List.range_succ, List.map_append, List.map_singleton, hge])
      have HCa := Lib.hid (fun W hb => HSt.out W hb i hlt sp[i].lo sp[i].hi)
      clear hge
      generalize sp[i] = y at *
      obtain ⟨lo, hi⟩ := y
      dsimp only at *
      have GC1 : Hid (∀ q : After wr.heap.size wr, Calls Try.prog 25 #[.int .i64 lo, .int .i64 0, .int .i64 1000000] q.val fun e w' => e = .returned (.bool (inN lo 0 1000000)) ∧ Below q.val.heap.size q.val w') := Lib.hid (fun q => (within6_any lo 0 1000000 q.val).mono (fun e w' h => ⟨h.1, h.2 ▸ Below.refl _ _⟩))
      have GC2 : Hid (∀ q : After wr.heap.size wr, Calls Try.prog 25 #[.int .i64 hi, .int .i64 lo, .int .i64 1000000] q.val fun e w' => e = .returned (.bool (inN hi lo 1000000)) ∧ Below q.val.heap.size q.val w') := Lib.hid (fun q => (within6_any hi lo 1000000 q.val).mono (fun e w' h => ⟨h.1, h.2 ▸ Below.refl _ _⟩))
      have d0 := After.cell (B := wr.heap.size) c0 hb
      have d1 := After.cell (B := wr.heap.size) c1 hb
      go_upto_region 10 with fail
      cases r1 : inN lo 0 1000000 with
      | false =>
        rw [r1] at HE GC1
        have HF : Hid (spnB (sp.getD i default) = false) := Lib.hid (by rw [HE.out]; rfl)
        refine wp_region_class_lit (C := fun w' => ∃ z : After wr.heap.size wr, w' = z.val) (by kernel_rfl) (by kernel_rfl) ⟨⟨_, (Below.refl _ _).drew⟩, rfl⟩ ?_
        repeat (go_big_quiet_step ((first
          | (go_at_call 25; with_reducible exact after_of (Nat.le_refl _) _ (GC1.out _)))))
        refine wpQuiet_nil ?_
        intro wq hw'
        obtain ⟨⟨wz, hz⟩, hw''⟩ := hw'
        dsimp only at hw''
        subst hw''
        have krz := krr.below hz krr.lt
        have krzc := krz.cell
        have z0 := krz.free 0
        have z1 := krz.free 1
        have hBz := hBw.trans (hz.mono (by have := hBw.size; rw [hgm] at this; exact this))
        go_wp2_with fail
        have hrc := (sp_put (c0 := .int .i64 0) (c1 := .int .i64 0) krz).cell
        show bodyPost _ _ _ _ _ _
        exact bodyPost_ret (v := .tuple #[.agg #[.int .i64 0, .int .i64 0], .int .i64 61]) (by simp [results, Try.results16, go_sem, hrc]) rfl ⟨rfl, by rw [hgm]; exact (hBz.setCell (p := ⟨g0 + 1, 0, none⟩) (by simp) _).setCell (p := ⟨g0 + 1, 1, none⟩) (by simp) _⟩

      | true =>
        cases r2 : inN hi lo 1000000 with
        | false =>
          rw [r1, r2] at HE
          rw [r1] at GC1
          rw [r2] at GC2
          have HF : Hid (spnB (sp.getD i default) = false) := Lib.hid (by rw [HE.out]; rfl)
          refine wp_region_class_lit (C := fun w' => ∃ z : After wr.heap.size wr, w' = z.val) (by kernel_rfl) (by kernel_rfl) ⟨⟨_, (Below.refl _ _).drew⟩, rfl⟩ ?_
          repeat (go_big_quiet_step ((first
            | (go_at_call 25; with_reducible exact after_of (Nat.le_refl _) _ (GC1.out _))
            | (go_at_call 25; with_reducible exact after_of (Nat.le_refl _) _ (GC2.out _)))))
          refine wpQuiet_nil ?_
          intro wq hw'
          obtain ⟨⟨wz, hz⟩, hw''⟩ := hw'
          dsimp only at hw''
          subst hw''
          have krz := krr.below hz krr.lt
          have krzc := krz.cell
          have z0 := krz.free 0
          have z1 := krz.free 1
          have hBz := hBw.trans (hz.mono (by have := hBw.size; rw [hgm] at this; exact this))
          go_wp2_with fail
          have hrc := (sp_put (c0 := .int .i64 0) (c1 := .int .i64 0) krz).cell
          show bodyPost _ _ _ _ _ _
          exact bodyPost_ret (v := .tuple #[.agg #[.int .i64 0, .int .i64 0], .int .i64 61]) (by simp [results, Try.results16, go_sem, hrc]) rfl ⟨rfl, by rw [hgm]; exact (hBz.setCell (p := ⟨g0 + 1, 0, none⟩) (by simp) _).setCell (p := ⟨g0 + 1, 1, none⟩) (by simp) _⟩

        | true =>
          rw [r1, r2] at HE
          rw [r1] at GC1
          rw [r2] at GC2
          have HF : Hid (spnB (sp.getD i default) = true) := Lib.hid (by rw [HE.out]; rfl)
          refine wp_region_class_lit (C := fun w' => ∃ z : After wr.heap.size wr, w' = z.val) (by kernel_rfl) (by kernel_rfl) ⟨⟨_, (Below.refl _ _).drew⟩, rfl⟩ ?_
          repeat (go_big_quiet_step ((first
            | (go_at_call 25; with_reducible exact after_of (Nat.le_refl _) _ (GC1.out _))
            | (go_at_call 25; with_reducible exact after_of (Nat.le_refl _) _ (GC2.out _)))))
          refine wpQuiet_nil ?_
          intro wq hw'
          obtain ⟨⟨wz, hz⟩, hw''⟩ := hw'
          dsimp only at hw''
          subst hw''
          have kmz := kmr.below hz kmr.lt
          have kmzc := kmz.cell
          have c0q := (hz.cell (p := ⟨b, off + i * 2, none⟩) hb).trans c0
          have c1q := (hz.cell (p := ⟨b, off + i * 2 + 1, none⟩) hb).trans c1
          have D0 : Below g0 w wq.drew := (hBw.trans (hz.mono (by have := hBw.size; rw [hgm] at this; exact this))).drew
          have HI := Lib.hid ((hR.out.1.below hz).below ((Below.refl _ _).drew))
          have HB9 : Hid (Below w3.heap.size w3 wq.drew) := Lib.hid ((hB.trans (hz.mono hB.size)).drew)
          have hls3 := HB9.out.size
          have hls4 : w3.heap.size ≤ wq.heap.size := hls3
          generalize stepsI lo hi (cutsT ⟨traits, cl.map CrdD.v, tl.map TreD.v, need⟩ i) = sl at *
          clear kmr krr kmc hB hBw d0 d1 GC1 GC2 c0 c1 r1 r2 HE hz kmz
          go_upto_region 12 with fail
          go_region_law (first
            | (go_simp; go_at_call 33; (with_reducible refine (HCa.out _ D0).mono ?_); rintro e w7 ⟨A7, a7, rfl, hA7, ha7, h7, f7⟩; have hI7 := HI.out.below h7; have hI8 := hI7.below ((Below.refl w7.heap.size w7).alloc (Nat.le_refl _) (.cells #[.slice A7 sl.length a7] 26)); have hv7 := h7.size)
            | (refine step_append_src (by rfl) _ _ _ (by rfl) w3.heap.size 26 i4 _ 1 24 Try.underlying78 hi4 hq0 hq1 hq2 rfl (by decide) _ _ _ (by rfl) hI8.2.1 (some ⟨w7.heap.size, 0, none⟩) 1 1 [.slice A7 sl.length a7] (by rfl) (by rfl) (fun e => by cases e) (fun ad e => by cases e; exact sl_new w7 _ _) sl_ones (by unfold maxLen; omega) (by omega) (by rw [World.size_alloc]; exact Nat.le_trans (Nat.le_trans hls4 hv7) (Nat.le_succ _)) ?_; intro v8 w8 hown8 hg8 ho8; obtain ⟨A8, c8, rfl⟩ := own_slice hown8))
          all_goals have hfx : FlatX 1 intC (w7.alloc (.cells #[.slice A7 sl.length a7] 26)) w3.heap.size (Value.slice A2 i c2).ownBlock A7 sl := FlatX.below (fun k hk => by
            obtain ⟨b9, off9, e9, h1, h2⟩ := hA7 k hk
            have h3 := f7 _ e9
            exact ⟨b9, off9, e9, Nat.le_trans hls4 h3, h1, fun e => by have := (HI.out.lt b9 e.symm).2; exact absurd (Nat.lt_of_lt_of_le this h3) (Nat.lt_irrefl _), h2⟩) ((Below.refl _ _).alloc (Nat.le_refl _) _)
          all_goals have hpush := LsInv.push (z := ⟨sl, A7, a7⟩) hI8 hfx hown8 hg8 ho8
          all_goals have hB8 : Below w3.heap.size w3 w8 := ((HB9.out.trans (h7.mono hls4)).alloc (Nat.le_trans hls4 hv7) (.cells #[.slice A7 sl.length a7] 26)).grown hg8 (by rw [World.size_alloc]; exact Nat.le_trans (Nat.le_trans hls4 hv7) (Nat.le_succ _)) (fun k e => (hI8.lt k e).1)
          all_goals have HFin := Lib.hid (And.intro hpush hB8)
          all_goals clear hpush hB8 hfx hown8 hg8 ho8 hI7 hI8 hA7 h7 f7
          all_goals go_wp2_with fail
          all_goals go_roundw
          all_goals first
            | exact ⟨i + 1, A8, c8, _, by omega, rfl, by go_num, Lib.hid ⟨by rw [List.map_append, hD.out.1, HN.out]; rfl, fun j hj => by
                rcases Nat.lt_or_ge j i with h | h
                · exact hD.out.2 j h
                · obtain rfl : j = i := by omega
                  exact HF.out⟩, Lib.hid HFin.out⟩
            | (simp [vInt]; done)
            | (simp [vInt]; omega)
    · have hil : ¬ (i : Int) < (sp.length : Int) := by omega
      obtain rfl : i = sp.length := by omega
      exact absurd (HVa.out.1 hD.out.2) (by simp)

end Go.Proofs.Ytijhbcmmoagdmaa

namespace Go.Proofs.Ytijhbcmmoagdmaa
open Go.RowKit Go.Maps

theorem Blk.kpt {w w' : World} {g : Nat} {cs : Array Value} {t : TypeId} {P : Nat → Prop} (h : Blk w g cs t) (k : Kpt P w w') (hp : P g) : Blk w' g cs t := (k.blk g h.lt hp).trans h
def ici (l : List Int) : Array Value := (l.map fun x => Value.int .i64 x).toArray
theorem ici_at {l : List Int} {i : Nat} (h : i < l.length) : (ici l)[i]? = some (.int .i64 l[i]) := by unfold ici; simp [h]
theorem ici_ex {l : List Int} {i : Nat} (h : i < l.length) : ∃ x, (ici l)[i]? = some (.int .i64 x) := ⟨_, ici_at h⟩
theorem ici_set (l : List Int) (i : Nat) (n : Int) : (ici l).setIfInBounds i (.int .i64 n) = ici (l.set i n) := by unfold ici; simp [List.map_set]
theorem made_list (T : Nat) : madeCells #[Value.int .i64 0] T = (List.replicate T (Value.int .i64 0)).toArray := by
  rw [← toList_madeCells_one]
theorem ici_made (T : Nat) : madeCells #[.int .i64 0] T = ici (List.replicate T 0) := by rw [made_list]; unfold ici; simp
theorem dg_made (T : Nat) : madeCells #[.int .i64 0] T = dg (List.replicate T 0) := by rw [made_list]; unfold dg; simp
theorem ints_ici {w : World} {g : Nat} {l : List Int} {t : TypeId} (h : Blk w g (ici l) t) : IntsAt w w.heap.size (some ⟨g, 0, none⟩) l := fun k hk => by
  refine ⟨g, 0, rfl, h.lt, fun j hj => ?_⟩
  obtain rfl : j = 0 := by omega
  have := h.cell k
  rw [ici_at hk] at this
  simpa [intC] using this
theorem digs_zero : ∀ (l : List Nat), digs l 0 = List.replicate l.length 0
  | [] => rfl
  | n :: r => by
    show 0 / nums r :: digs r (0 % nums r) = _
    rw [Nat.zero_div, Nat.zero_mod, digs_zero r]; rfl
theorem vecD_len (L : List (List Int)) (d : List Nat) : (vecD L d).length = L.length := by unfold vecD; simp
theorem vals_set {L : List (List Int)} {d : List Nat} {v : List Int} {i : Nat} (hi : i < L.length) (hv : v.length = L.length) :
    ((vecD L d).take i ++ v.drop i).set i ((L.getD i []).getD (d.getD i 0) 0) = (vecD L d).take (i + 1) ++ v.drop (i + 1) := by
  have hl := vecD_len L d
  have hg : (vecD L d)[i]'(by omega) = (L.getD i []).getD (d.getD i 0) 0 := by unfold vecD; simp
  rw [List.take_succ_eq_append_getElem (by omega), List.set_append_right _ _ (by rw [List.length_take]; omega), List.length_take, Nat.min_eq_left (by omega), Nat.sub_self, List.drop_eq_getElem_cons (by omega : i < v.length), hg, List.append_assoc]
  rfl
theorem LsInv.outer {w : World} {lo : Nat} {A : Option Addr} {c n : Nat} {l : List LsD} (h : LsInv w lo A c n l) {i : Nat} (hi : i < l.length) : ∃ b off, A = some ⟨b, off, none⟩ ∧ lo ≤ b ∧ b < w.heap.size ∧ w.cell? ⟨b, off + i, none⟩ = some (.slice l[i].A l[i].l.length l[i].a) := by
  obtain ⟨e1, h2, _⟩ := h
  subst e1
  obtain ⟨b, off, e, h3, h4, _, h5⟩ := FlatX.of_own (row := none) lsC_len (by decide) h2 (Nat.le_refl _) (fun g e => by cases e) i hi
  refine ⟨b, off, e, h3, h4, ?_⟩
  have := h5 0 (by decide)
  rw [Nat.mul_one, Nat.add_zero] at this
  rw [this]; rfl
theorem LsInv.inner {w : World} {lo : Nat} {A : Option Addr} {c n : Nat} {l : List LsD} (h : LsInv w lo A c n l) {i : Nat} (hi : i < l.length) {k : Nat} (hk : k < l[i].l.length) : ∃ b off, l[i].A = some ⟨b, off, none⟩ ∧ lo ≤ b ∧ b < w.heap.size ∧ w.cell? ⟨b, off + k, none⟩ = some (.int .i64 l[i].l[k]) := by
  obtain ⟨b, off, e, h3, h4, _, h5⟩ := h.2.2 _ (List.getElem_mem hi) k hk
  refine ⟨b, off, e, h3, h4, ?_⟩
  have := h5 0 (by decide)
  rw [Nat.mul_one, Nat.add_zero] at this
  rw [this]; rfl
theorem lens_ls {L : List (List Int)} {l : List LsD} (h : l.map LsD.l = L) {i : Nat} (hi : i < l.length) (hi' : i < (lens L).length) : (lens L)[i] = l[i].l.length := by
  subst h; simp [lens]
theorem getD_ls {L : List (List Int)} {l : List LsD} (h : l.map LsD.l = L) {i : Nat} (hi : i < l.length) : L.getD i [] = l[i].l := by
  subst h; rw [getD_lt _ _ (by simpa using hi)]; simp
theorem loL_one (n : Int) (h : n ≤ 9223372036854775808) : loL [n] = n := by
  have := loL_snoc [] n
  rw [List.nil_append] at this
  rw [this]
  show min (-(-9223372036854775808 : Int)) n = n
  omega
theorem hiL_one (n : Int) (h : -9223372036854775808 ≤ n) : hiL [n] = n := by
  have := hiL_snoc [] n
  rw [List.nil_append] at this
  rw [this]
  show max (-9223372036854775808 : Int) n = n
  omega
/-- What is known behind q vectors. -/
structure OdoSt (f : List Int → Int) (L : List (List Int)) (q : Nat) (lo hi : Int) : Prop where
  le : q ≤ nums (lens L)
  lo : 0 < q → lo = loL (((vecs L).take q).map f)
  hi : 0 < q → hi = hiL (((vecs L).take q).map f)
theorem OdoSt.first {f : List Int → Int} {L : List (List Int)} (hp : ∀ n ∈ lens L, 0 < n) {n : Int} (hn : f (vecD L (digs (lens L) 0)) = n) (h1 : -9223372036854775808 ≤ n) (h2 : n ≤ 9223372036854775808) : OdoSt f L 1 n n := by
  have h0 := nums_pos hp
  have hv := vecs_at L hp 0 h0
  have ht : (vecs L).take 1 = [vecD L (digs (lens L) 0)] := by
    obtain ⟨hlt, hv⟩ := List.getElem?_eq_some_iff.1 hv
    rw [List.take_succ_eq_append_getElem hlt, hv]; rfl
  exact ⟨h0, fun _ => by rw [ht, List.map_singleton, hn, loL_one n h2], fun _ => by rw [ht, List.map_singleton, hn, hiL_one n h1]⟩
theorem OdoSt.next {f : List Int → Int} {L : List (List Int)} {q : Nat} {lo hi : Int} (h : OdoSt f L q lo hi) (h0 : 0 < q) (hp : ∀ n ∈ lens L, 0 < n) (hq : q < nums (lens L)) {n : Int} (hn : f (vecD L (digs (lens L) q)) = n) : OdoSt f L (q + 1) (min lo n) (max hi n) := by
  have hv := vecs_at L hp q hq
  have ht : (vecs L).take (q + 1) = (vecs L).take q ++ [vecD L (digs (lens L) q)] := by
    obtain ⟨hlt, hv⟩ := List.getElem?_eq_some_iff.1 hv
    rw [List.take_succ_eq_append_getElem hlt, hv]
  exact ⟨hq, fun _ => by rw [ht, List.map_append, List.map_singleton, loL_snoc, hn, h.lo h0], fun _ => by rw [ht, List.map_append, List.map_singleton, hiL_snoc, hn, h.hi h0]⟩
theorem OdoSt.next' {f : List Int → Int} {L : List (List Int)} {q : Nat} {lo hi lo' hi' : Int} (h : OdoSt f L q lo hi) (h0 : 0 < q) (hp : ∀ n ∈ lens L, 0 < n) (hq : q < nums (lens L)) {n : Int} (hn : f (vecD L (digs (lens L) q)) = n) (e1 : lo' = min lo n) (e2 : hi' = max hi n) : OdoSt f L (q + 1) lo' hi' := by
  rw [e1, e2]; exact h.next h0 hp hq hn
theorem OdoSt.done {f : List Int → Int} {L : List (List Int)} {lo hi : Int} (h : OdoSt f L (nums (lens L)) lo hi) (hp : ∀ n ∈ lens L, 0 < n) : lo = loL ((vecs L).map f) ∧ hi = hiL ((vecs L).map f) := by
  have h0 := nums_pos hp
  have e : (vecs L).take (nums (lens L)) = vecs L := by rw [← vecs_len]; exact List.take_length ..
  have h1 := h.lo h0
  have h2 := h.hi h0
  rw [e] at h1 h2
  exact ⟨h1, h2⟩
theorem stepsI_neR (lo hi : Int) (cs : List Int) : stepsI lo hi cs ≠ [] := (stepsI_lenR lo hi cs [lo] (by simp)).2
theorem stepsI_lenL (lo hi : Int) (cs : List Int) : (stepsI lo hi cs).length ≤ 1 + cs.length := by
  have := (stepsI_lenR lo hi cs [lo] (by simp)).1
  simpa [stepsI] using this
theorem stepsL_len (m : Mdl) (x : List Spn) : (stepsL m x).length = x.length := by unfold stepsL; simp
theorem lens_len (L : List (List Int)) : (lens L).length = L.length := by unfold lens; simp
theorem lens_pos (m : Mdl) (x : List Spn) : ∀ n ∈ lens (stepsL m x), 0 < n := fun n hn => by
  unfold lens stepsL at hn
  rw [List.map_map] at hn
  obtain ⟨k, _, rfl⟩ := List.mem_map.1 hn
  exact List.length_pos_iff.2 (stepsI_neR _ _ _)
theorem scoreM_boundR {m : Mdl} {x : List Int} (h : mdlB m = true) (hl : (x.length : Int) = m.traits) (hxl : x.length ≤ 10) : -44000000000 ≤ scoreM m x ∧ scoreM m x ≤ 44000000000 := by
  obtain ⟨_, _, h3, h4, h5, h6⟩ := mdlB_parts h
  have := sumL_bound (prodL m x) (fun z hz => by
    unfold prodL at hz
    rcases List.mem_append.1 hz with hz | hz
    · obtain ⟨q, hq, rfl⟩ := List.mem_map.1 hz
      have h7 := h5 q hq
      rw [← hl] at h7
      exact mul_bound (crdB_parts h7).1 (onCrd_bound h7 hxl)
    · obtain ⟨q, hq, rfl⟩ := List.mem_map.1 hz
      have h7 := h6 q hq
      rw [← hl] at h7
      have := onTre_bound h7
      exact mul_bound (treB_parts h7).1 (by omega))
  have hlen : (prodL m x).length = m.cards.length + m.trees.length := by unfold prodL; simp
  rw [hlen] at this
  rw [scoreM_eq]
  omega
end Go.Proofs.Ytijhbcmmoagdmaa
