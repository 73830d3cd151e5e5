/- A number put in order, by the reference. Written by a program. -/
import Derived.Test.YtkimojiakabbcaaGreatSBDat
import Derived.Test.YtkimojiakabbcaaGreatWQ1
import Derived.Test.YtkimojiakabbcaaGreatSRef6
import Derived.Test.YtkimojiakabbcaaGreatWP1

namespace Go.Proofs.YtkimojiakabbcaaGreat
open Go.RowKit Go.Maps

theorem putI_at : ∀ (l : List Int) (n : Int) (i : Nat), i ≤ l.length → (∀ j (h : j < l.length), j < i → l[j] < n) → (∀ h : i < l.length, n < l[i]) → putI l n = l.take i ++ n :: l.drop i
  | [], n, i, hi, _, _ => by obtain rfl : i = 0 := by simpa using hi
                             rfl
  | x :: r, n, 0, _, _, h2 => by
    have h3 := h2 (by simp)
    simp only [List.getElem_cons_zero] at h3
    simp only [putI, List.take_zero, List.drop_zero, List.nil_append]
    rw [if_neg (by omega), if_neg (by omega)]
  | x :: r, n, i + 1, hi, h1, h2 => by
    have h3 := h1 0 (by simp) (by omega)
    simp only [List.getElem_cons_zero] at h3
    simp only [putI, List.take_succ_cons, List.drop_succ_cons, List.cons_append]
    rw [if_pos h3, putI_at r n i (by simpa using hi) (fun j h hj => by have := h1 (j + 1) (by simpa using h) (by omega); simpa using this) (fun h => by have := h2 (by simpa using h); simpa using this)]
theorem putI_has : ∀ (l : List Int) (n : Int) (i : Nat) (hi : i < l.length), (∀ j (h : j < l.length), j < i → l[j] < n) → l[i] = n → putI l n = l
  | x :: r, n, 0, _, _, h2 => by
    simp only [List.getElem_cons_zero] at h2
    simp only [putI]
    rw [if_neg (by omega), if_pos h2]
  | x :: r, n, i + 1, hi, h1, h2 => by
    have h3 := h1 0 (by simp) (by omega)
    simp only [List.getElem_cons_zero] at h3
    simp only [putI]
    rw [if_pos h3, putI_has r n i (by simpa using hi) (fun j h hj => by have := h1 (j + 1) (by simpa using h) (by omega); simpa using this) (by simpa using h2)]
theorem ints_take {w : World} {A : Option Addr} {l : List Int} (h : IntsAt w w.heap.size A l) (i : Nat) : IntsAt w w.heap.size A (l.take i) := fun k hk => by
  obtain ⟨b, off, e, h1, h2⟩ := h k (by rw [List.length_take] at hk; omega)
  exact ⟨b, off, e, h1, fun j hj => by rw [h2 j hj, List.getElem_take]⟩
theorem ints_drop {w : World} {b off : Nat} {l : List Int} (h : IntsAt w w.heap.size (some ⟨b, off, none⟩) l) (i : Nat) : IntsAt w w.heap.size (some ⟨b, off + i, none⟩) (l.drop i) := fun k hk => by
  obtain ⟨b', off', e, h1, h2⟩ := h (i + k) (by rw [List.length_drop] at hk; omega)
  cases e
  refine ⟨b, off + i, rfl, h1, fun j hj => ?_⟩
  have := h2 j hj
  rw [List.getElem_drop, ← this]
  congr 2
  omega
theorem ints_end {w : World} {A : Option Addr} {l : List Int} (_ : IntsAt w w.heap.size A l) (i : Nat) (hi : l.length ≤ i) : IntsAt w w.heap.size A (l.drop i) := by
  rw [List.drop_eq_nil_of_le hi]; exact Flat.nil _ _ _ _ _
theorem int_ones {n : Int} : ∀ u ∈ [Value.int .i64 n], u.oneCell' = true := fun u hu => by rw [List.mem_singleton] at hu; subst hu; rfl
theorem int_blk {w : World} {g : Nat} {n : Int} {t : TypeId} (h : Blk w g #[.int .i64 n] t) : ∀ j u, [Value.int .i64 n][j]? = some u → w.cell? ((⟨g, 0, none⟩ : Addr).add j) = some u := fun j u hj => by
  rw [WideShapes.add_plain, Nat.zero_add]
  exact (h.cell j).trans (by simpa using hj)
theorem int_newB (w : World) (n : Int) (t : TypeId) : ∀ j u, [Value.int .i64 n][j]? = some u → (w.alloc (.cells #[.int .i64 n] t)).cell? ((⟨w.heap.size, 0, none⟩ : Addr).add j) = some u := int_blk (Blk.new w _ t)
theorem own_cap {w : World} {base : Nat} {e : TypeId} {size n c : Nat} {A : Option Addr} {xs : List Value} (h : w.ownsRow base e size (.slice A n c) n xs) : n ≤ c := by
  rcases h.2 with ⟨e1, e2⟩ | ⟨g, cap, cur, e1, _, _, h2, _⟩
  · omega
  · injection e1 with _ _ e3; omega

/-- The numbers with one put in order. -/
def PutS (w : World) (A : Option Addr) (l : List Int) (e : Ending) (w' : World) : Prop :=
  ∃ A' c', e = .returned (.slice A' l.length c') ∧ IntsAt w' w'.heap.size A' l ∧ l.length ≤ c' ∧ Below w.heap.size w w' ∧ (A' = A ∨ ∀ ad, A' = some ad → w.heap.size ≤ ad.block)
theorem own_new {w : World} {base : Nat} {e : TypeId} {size n c : Nat} {A : Option Addr} {xs : List Value} (h : w.ownsRow base e size (.slice A n c) n xs) : ∀ ad, A = some ad → base ≤ ad.block := fun ad hA => by
  rcases h.2 with ⟨e1, _⟩ | ⟨g, cap, cur, e1, h1, _⟩
  · injection e1 with e2; rw [e2] at hA; cases hA
  · injection e1 with e2; rw [e2] at hA; cases hA; exact h1
theorem put_end {w w' : World} {l : List Int} {n : Int} {i : Nat} {A A0 : Option Addr} {c : Nat} (hv : putI l n = l.take i ++ n :: l.drop i) (hi : i ≤ l.length) (h : w'.ownsRow w.heap.size 3 1 (.slice A (i + 1 + (l.length - i)) c) (i + 1 + (l.length - i)) (((l.take i).flatMap intC ++ [.int .i64 n]) ++ (l.drop i).flatMap intC)) (hb : Below w.heap.size w w') : PutS w A0 (putI l n) (.returned (.slice A (i + 1 + (l.length - i)) c)) w' := by
  have e1 : (putI l n).length = i + 1 + (l.length - i) := by rw [hv]; simp only [List.length_append, List.length_cons, List.length_take, List.length_drop]; omega
  have e2 : (putI l n).flatMap intC = ((l.take i).flatMap intC ++ [.int .i64 n]) ++ (l.drop i).flatMap intC := by rw [hv]; simp [intC]
  rw [← e1, ← e2] at h
  refine ⟨A, c, by rw [e1], ?_, own_cap h, hb, .inr (own_new h)⟩
  exact (FlatP.of_own (P := fun _ => True) intC_len (by decide) h (fun _ _ _ _ => trivial)).flat

theorem put_end0 {w w' : World} {l : List Int} {n : Int} {i : Nat} {A A0 : Option Addr} {c : Nat} (hv : putI l n = l.take i ++ n :: l.drop i) (hi : i = l.length) (h : w'.ownsRow w.heap.size 3 1 (.slice A (i + 1) c) (i + 1) ((l.take i).flatMap intC ++ [.int .i64 n])) (hb : Below w.heap.size w w') : PutS w A0 (putI l n) (.returned (.slice A (i + 1) c)) w' := by
  have e1 : (putI l n).length = i + 1 := by rw [hv]; simp only [List.length_append, List.length_cons, List.length_take, List.length_drop]; omega
  have e2 : (putI l n).flatMap intC = (l.take i).flatMap intC ++ [.int .i64 n] := by rw [hv, List.drop_eq_nil_of_le (by omega)]; simp [intC]
  rw [← e1, ← e2] at h
  refine ⟨A, c, by rw [e1], ?_, own_cap h, hb, .inr (own_new h)⟩
  exact (FlatP.of_own (P := fun _ => True) intC_len (by decide) h (fun _ _ _ _ => trivial)).flat

set_option maxRecDepth 100000 in
set_option maxHeartbeats 8000000 in
theorem put6_any (l : List Int) (n : Int) (A : Option Addr) (a : Nat) (w : World) (h : IntsAt w w.heap.size A l) (hne : l ≠ []) (hl : l.length ≤ 100000) (ha : l.length ≤ a) :
    Calls Tryz.prog 67 #[.slice A l.length a, .int .i64 n] w (PutS w A (putI l n)) := by
  obtain ⟨i0, hi0, hz0, hz1, hz2⟩ := info_parts intInfo
  obtain ⟨b, off, rfl, hb, h0⟩ := ints_at h (List.length_pos_iff.2 hne)
  have hC : Hid (∀ k (hk : k < l.length), w.cell? ⟨b, off + k, none⟩ = some (.int .i64 l[k])) := Lib.hid (fun k hk => by obtain ⟨b', off', e, _, h2⟩ := ints_at h hk; cases e; exact h2)
  have LIT := Lib.hid (trivial : True)
  clear h0 hne
  go_enter Tryz.func67, Tryz.ntmps67
  go_wp2_with fail
  go_loopw [5] (fun ii wr => ∃ i : Nat, i ≤ l.length ∧ ii = .int .i64 i ∧ Hid (∀ j (h : j < l.length), j < i → l[j] < n) ∧ w = wr) (fun ii _ => l.length - (vInt ii).toNat)
  case atStart => exact ⟨0, Nat.zero_le _, rfl, Lib.hid (fun j _ hj => absurd hj (Nat.not_lt_zero _)), rfl⟩
  case round =>
    obtain ⟨i, hi, rfl, hN, rfl⟩ := hrel
    by_cases hlt : i < l.length
    · have hil : (i : Int) < (l.length : Int) := by omega
      have c0 := hC.out i hlt
      have HL : Hid (∀ y, y = l[i] → ∀ j (h : j < l.length), j < i + 1 → y < n → l[j] < n) := Lib.hid (fun y hy j h hj hyn => by
        rcases Nat.lt_or_ge j i with hji | hji
        · exact hN.out j h hji
        · obtain rfl : j = i := by omega
          omega)
      have HE : Hid (l[i] = n → putI l n = l) := Lib.hid (putI_has l n i hlt hN.out)
      have HP : Hid (n < l[i] → putI l n = l.take i ++ n :: l.drop i) := Lib.hid (fun hn => putI_at l n i hi hN.out (fun _ => hn))
      obtain ⟨y, hy⟩ : ∃ y, y = l[i] := ⟨_, rfl⟩
      have HY := Lib.hid (HL.out y hy)
      rw [← hy] at c0 HE HP
      clear HL hy
      by_cases hyn : y < n
      · have HJ : Hid (∀ j (h : j < l.length), j < i + 1 → l[j] < n) := Lib.hid (fun j h hj => HY.out j h hj hyn)
        clear HY HE HP hN
        go_wp2_with fail
        go_roundw
        case rel => exact ⟨i + 1, by omega, by go_num, HJ, by first | rfl | trivial⟩
        case measure => simp [vInt]; omega
      · clear HY hN
        by_cases hye : y = n
        · have HV := Lib.hid (HE.out hye)
          have hyb : (y == n) = true := by simp [hye]
          clear HE HP
          go_wp2_with fail
          go_ret
          exact ⟨some ⟨b, off, none⟩, a, by rw [HV.out]; rfl, by rw [HV.out]; exact h, by rw [HV.out]; exact ha, Below.refl _ _, .inl rfl⟩
        · have hyb : (y == n) = false := by simpa using hye
          have hai : ¬ a = i := by omega
          have HV : Hid (putI l n = l.take i ++ n :: l.drop i) := Lib.hid (HP.out (by omega))
          have HT := Lib.hid (ints_take h i)
          have HDr := Lib.hid (ints_drop h i)
          have hia : i ≤ a := by omega
          have D1 : Below w.heap.size w ((w.alloc (.cells #[] 3)).drew) := ((Below.refl _ _).alloc (Nat.le_refl _) _).drew
          have D2 : Below w.heap.size w (((w.alloc (.cells #[] 3)).alloc (.cells #[.int .i64 n] 3)).drew) := (((Below.refl _ _).alloc (Nat.le_refl _) _).alloc (by simp) _).drew
          have D3 : Below w.heap.size w (((w.alloc (.cells #[.int .i64 n] 3)).alloc (.cells #[] 3)).drew) := (((Below.refl _ _).alloc (Nat.le_refl _) _).alloc (by simp) _).drew
          have hE1 := own_drew (own_empty w 3 1 w.heap.size (Nat.le_refl _))
          have hE2 := own_drew (own_below (own_empty w 3 1 w.heap.size (Nat.le_refl _)) ((Below.refl _ _).alloc (Nat.le_refl _) (.cells #[.int .i64 n] 3)))
          have hE3 := own_drew (own_empty (w.alloc (.cells #[.int .i64 n] 3)) 3 1 w.heap.size (by simp))
          rw [World.size_alloc] at hE3
          go_upto_region 6 with fail
          clear h hC LIT
          go_region_law (first
          | (refine step_append_src (by rfl) _ _ _ (by rfl) w.heap.size 3 i0 _ 1 8 Tryz.underlying31 hi0 hz0 hz1 hz2 rfl (by decide) _ 0 [] (by rfl) hE1 (some ⟨b, off, none⟩) i a ((l.take i).flatMap intC) (by rfl) (by rw [flat_len intC_len, List.length_take]; omega) (fun e => by cases e) (Flat.news intC_len (by decide) (HT.out.later D1)) (flat_ones intC_one _) (by unfold maxLen; omega) (by omega) (by first | (simp; done) | (simp; omega)) ?_; intro v8 w8 hown8 hg8 ho8; rw [Nat.zero_add, List.nil_append] at hown8; obtain ⟨A8, c8, rfl⟩ := own_slice hown8; have b8 : Below w.heap.size w w8 := D1.grown hg8 (by first | (simp; done) | (simp; omega)) (fun k e => (hE1.lt k e).1))
          | (refine step_append_src (by rfl) _ _ _ (by rfl) w.heap.size 3 i0 _ 1 8 Tryz.underlying31 hi0 hz0 hz1 hz2 rfl (by decide) _ 0 [] (by rfl) hE2 (some ⟨b, off, none⟩) i a ((l.take i).flatMap intC) (by rfl) (by rw [flat_len intC_len, List.length_take]; omega) (fun e => by cases e) (Flat.news intC_len (by decide) (HT.out.later D2)) (flat_ones intC_one _) (by unfold maxLen; omega) (by omega) (by first | (simp; done) | (simp; omega)) ?_; intro v8 w8 hown8 hg8 ho8; rw [Nat.zero_add, List.nil_append] at hown8; obtain ⟨A8, c8, rfl⟩ := own_slice hown8; have b8 : Below w.heap.size w w8 := D2.grown hg8 (by first | (simp; done) | (simp; omega)) (fun k e => (hE2.lt k e).1); have k8 := (newAt' (w.alloc (.cells #[] 3)) #[.int .i64 n] 3 (g := w.heap.size + 1) (by simp)).drew.grown hg8 (fun e => by have e2 := Option.some.inj e; dsimp only at e2; omega); have gn8 : (w.heap.size + 1, (0 : Nat)) = (w.heap.size + 1, 0) := rfl)
          | (refine step_append_src (by rfl) _ _ _ (by rfl) w.heap.size 3 i0 _ 1 8 Tryz.underlying31 hi0 hz0 hz1 hz2 rfl (by decide) _ 0 [] (by rfl) hE3 (some ⟨b, off, none⟩) i a ((l.take i).flatMap intC) (by rfl) (by rw [flat_len intC_len, List.length_take]; omega) (fun e => by cases e) (Flat.news intC_len (by decide) (HT.out.later D3)) (flat_ones intC_one _) (by unfold maxLen; omega) (by omega) (by first | (simp; done) | (simp; omega)) ?_; intro v8 w8 hown8 hg8 ho8; rw [Nat.zero_add, List.nil_append] at hown8; obtain ⟨A8, c8, rfl⟩ := own_slice hown8; have b8 : Below w.heap.size w w8 := D3.grown hg8 (by first | (simp; done) | (simp; omega)) (fun k e => (hE3.lt k e).1); have k8 := ((Blk.new w #[.int .i64 n] 3).alloc (.cells #[] 3)).drew.grown hg8 (fun e => by have e2 := Option.some.inj e; first | (simp at e2; done) | (simp at e2; omega)))
          | (have hq8 := own_below hown8 ((Below.refl w8.heap.size w8).alloc (Nat.le_refl _) (.cells #[.int .i64 n] 3)); refine step_append_src (by rfl) _ _ _ (by rfl) w.heap.size 3 i0 _ 1 8 Tryz.underlying31 hi0 hz0 hz1 hz2 rfl (by decide) _ _ _ (by rfl) hq8 (some ⟨w8.heap.size, 0, none⟩) 1 1 [.int .i64 n] (by rfl) (by rfl) (fun e => by cases e) (fun ad e => by cases e; exact int_newB w8 n _) int_ones (by unfold maxLen; omega) (by omega) (by have := b8.size; first | (simp; done) | (simp; omega)) ?_; intro v9 w9 hown9 hg9 ho9; obtain ⟨A9, c9, rfl⟩ := own_slice hown9; have b9 : Below w.heap.size w w9 := (b8.alloc b8.size (.cells #[.int .i64 n] 3)).grown hg9 (by have := b8.size; first | (simp; done) | (simp; omega)) (fun k e => (hq8.lt k e).1))
          | (refine step_append_src (by rfl) _ _ _ (by rfl) w.heap.size 3 i0 _ 1 8 Tryz.underlying31 hi0 hz0 hz1 hz2 rfl (by decide) _ _ _ (by rfl) hown8 (some ⟨w.heap.size + 1, 0, none⟩) 1 1 [.int .i64 n] (by rfl) (by rfl) (fun e => by cases e) (fun ad e => by cases e; exact int_blk k8) int_ones (by unfold maxLen; omega) (by omega) (by have := b8.size; omega) ?_; intro v9 w9 hown9 hg9 ho9; obtain ⟨A9, c9, rfl⟩ := own_slice hown9; have b9 : Below w.heap.size w w9 := b8.grown hg9 b8.size (fun k e => (hown8.lt k e).1))
          | (refine step_append_src (by rfl) _ _ _ (by rfl) w.heap.size 3 i0 _ 1 8 Tryz.underlying31 hi0 hz0 hz1 hz2 rfl (by decide) _ _ _ (by rfl) hown8 (some ⟨w.heap.size, 0, none⟩) 1 1 [.int .i64 n] (by rfl) (by rfl) (fun e => by cases e) (fun ad e => by cases e; exact int_blk k8) int_ones (by unfold maxLen; omega) (by omega) (by have := b8.size; omega) ?_; intro v9 w9 hown9 hg9 ho9; obtain ⟨A9, c9, rfl⟩ := own_slice hown9; have b9 : Below w.heap.size w w9 := b8.grown hg9 b8.size (fun k e => (hown8.lt k e).1))
          | (refine step_append_src (by rfl) _ _ _ (by rfl) w.heap.size 3 i0 _ 1 8 Tryz.underlying31 hi0 hz0 hz1 hz2 rfl (by decide) _ _ _ (by rfl) hown9 (some ⟨b, off + i, none⟩) (l.length - i) (a - i) ((l.drop i).flatMap intC) (by rfl) (by rw [flat_len intC_len, List.length_drop]) (fun e => by cases e) (Flat.news intC_len (by decide) (HDr.out.later b9)) (flat_ones intC_one _) (by unfold maxLen; omega) (by omega) (by have := b9.size; omega) ?_; intro v10 w10 hown10 hg10 ho10; (try rw [Nat.add_zero, List.append_nil] at hown10); obtain ⟨A10, c10, rfl⟩ := own_slice hown10; have b10 : Below w.heap.size w w10 := b9.grown hg10 b9.size (fun k e => (hown9.lt k e).1)))
          all_goals go_wp2_with fail
          all_goals go_ret
          all_goals exact put_end HV.out hi hown10 b10
    · have hil : ¬ (i : Int) < (l.length : Int) := by omega
      by_cases hai : a = i
      · subst hai
        have HV : Hid (putI l n = l.take a ++ n :: l.drop a) := Lib.hid (putI_at l n a hi hN.out (fun h => absurd h hlt))
        have HT := Lib.hid (ints_take h a)
        have HDr := Lib.hid (ints_end h a (by omega))
        have hia : a ≤ a := by omega
        have D1 : Below w.heap.size w ((w.alloc (.cells #[] 3)).drew) := ((Below.refl _ _).alloc (Nat.le_refl _) _).drew
        have D2 : Below w.heap.size w (((w.alloc (.cells #[] 3)).alloc (.cells #[.int .i64 n] 3)).drew) := (((Below.refl _ _).alloc (Nat.le_refl _) _).alloc (by simp) _).drew
        have D3 : Below w.heap.size w (((w.alloc (.cells #[.int .i64 n] 3)).alloc (.cells #[] 3)).drew) := (((Below.refl _ _).alloc (Nat.le_refl _) _).alloc (by simp) _).drew
        have hE1 := own_drew (own_empty w 3 1 w.heap.size (Nat.le_refl _))
        have hE2 := own_drew (own_below (own_empty w 3 1 w.heap.size (Nat.le_refl _)) ((Below.refl _ _).alloc (Nat.le_refl _) (.cells #[.int .i64 n] 3)))
        have hE3 := own_drew (own_empty (w.alloc (.cells #[.int .i64 n] 3)) 3 1 w.heap.size (by simp))
        rw [World.size_alloc] at hE3
        go_upto_region 6 with fail
        clear h hC LIT
        go_region_law (first
          | (refine step_append_src (by rfl) _ _ _ (by rfl) w.heap.size 3 i0 _ 1 8 Tryz.underlying31 hi0 hz0 hz1 hz2 rfl (by decide) _ 0 [] (by rfl) hE1 (some ⟨b, off, none⟩) a a ((l.take a).flatMap intC) (by rfl) (by rw [flat_len intC_len, List.length_take]; omega) (fun e => by cases e) (Flat.news intC_len (by decide) (HT.out.later D1)) (flat_ones intC_one _) (by unfold maxLen; omega) (by omega) (by first | (simp; done) | (simp; omega)) ?_; intro v8 w8 hown8 hg8 ho8; rw [Nat.zero_add, List.nil_append] at hown8; obtain ⟨A8, c8, rfl⟩ := own_slice hown8; have b8 : Below w.heap.size w w8 := D1.grown hg8 (by first | (simp; done) | (simp; omega)) (fun k e => (hE1.lt k e).1))
          | (refine step_append_src (by rfl) _ _ _ (by rfl) w.heap.size 3 i0 _ 1 8 Tryz.underlying31 hi0 hz0 hz1 hz2 rfl (by decide) _ 0 [] (by rfl) hE2 (some ⟨b, off, none⟩) a a ((l.take a).flatMap intC) (by rfl) (by rw [flat_len intC_len, List.length_take]; omega) (fun e => by cases e) (Flat.news intC_len (by decide) (HT.out.later D2)) (flat_ones intC_one _) (by unfold maxLen; omega) (by omega) (by first | (simp; done) | (simp; omega)) ?_; intro v8 w8 hown8 hg8 ho8; rw [Nat.zero_add, List.nil_append] at hown8; obtain ⟨A8, c8, rfl⟩ := own_slice hown8; have b8 : Below w.heap.size w w8 := D2.grown hg8 (by first | (simp; done) | (simp; omega)) (fun k e => (hE2.lt k e).1); have k8 := (newAt' (w.alloc (.cells #[] 3)) #[.int .i64 n] 3 (g := w.heap.size + 1) (by simp)).drew.grown hg8 (fun e => by have e2 := Option.some.inj e; dsimp only at e2; omega); have gn8 : (w.heap.size + 1, (0 : Nat)) = (w.heap.size + 1, 0) := rfl)
          | (refine step_append_src (by rfl) _ _ _ (by rfl) w.heap.size 3 i0 _ 1 8 Tryz.underlying31 hi0 hz0 hz1 hz2 rfl (by decide) _ 0 [] (by rfl) hE3 (some ⟨b, off, none⟩) a a ((l.take a).flatMap intC) (by rfl) (by rw [flat_len intC_len, List.length_take]; omega) (fun e => by cases e) (Flat.news intC_len (by decide) (HT.out.later D3)) (flat_ones intC_one _) (by unfold maxLen; omega) (by omega) (by first | (simp; done) | (simp; omega)) ?_; intro v8 w8 hown8 hg8 ho8; rw [Nat.zero_add, List.nil_append] at hown8; obtain ⟨A8, c8, rfl⟩ := own_slice hown8; have b8 : Below w.heap.size w w8 := D3.grown hg8 (by first | (simp; done) | (simp; omega)) (fun k e => (hE3.lt k e).1); have k8 := ((Blk.new w #[.int .i64 n] 3).alloc (.cells #[] 3)).drew.grown hg8 (fun e => by have e2 := Option.some.inj e; first | (simp at e2; done) | (simp at e2; omega)))
          | (have hq8 := own_below hown8 ((Below.refl w8.heap.size w8).alloc (Nat.le_refl _) (.cells #[.int .i64 n] 3)); refine step_append_src (by rfl) _ _ _ (by rfl) w.heap.size 3 i0 _ 1 8 Tryz.underlying31 hi0 hz0 hz1 hz2 rfl (by decide) _ _ _ (by rfl) hq8 (some ⟨w8.heap.size, 0, none⟩) 1 1 [.int .i64 n] (by rfl) (by rfl) (fun e => by cases e) (fun ad e => by cases e; exact int_newB w8 n _) int_ones (by unfold maxLen; omega) (by omega) (by have := b8.size; first | (simp; done) | (simp; omega)) ?_; intro v9 w9 hown9 hg9 ho9; obtain ⟨A9, c9, rfl⟩ := own_slice hown9; have b9 : Below w.heap.size w w9 := (b8.alloc b8.size (.cells #[.int .i64 n] 3)).grown hg9 (by have := b8.size; first | (simp; done) | (simp; omega)) (fun k e => (hq8.lt k e).1))
          | (refine step_append_src (by rfl) _ _ _ (by rfl) w.heap.size 3 i0 _ 1 8 Tryz.underlying31 hi0 hz0 hz1 hz2 rfl (by decide) _ _ _ (by rfl) hown8 (some ⟨w.heap.size + 1, 0, none⟩) 1 1 [.int .i64 n] (by rfl) (by rfl) (fun e => by cases e) (fun ad e => by cases e; exact int_blk k8) int_ones (by unfold maxLen; omega) (by omega) (by have := b8.size; omega) ?_; intro v9 w9 hown9 hg9 ho9; obtain ⟨A9, c9, rfl⟩ := own_slice hown9; have b9 : Below w.heap.size w w9 := b8.grown hg9 b8.size (fun k e => (hown8.lt k e).1))
          | (refine step_append_src (by rfl) _ _ _ (by rfl) w.heap.size 3 i0 _ 1 8 Tryz.underlying31 hi0 hz0 hz1 hz2 rfl (by decide) _ _ _ (by rfl) hown8 (some ⟨w.heap.size, 0, none⟩) 1 1 [.int .i64 n] (by rfl) (by rfl) (fun e => by cases e) (fun ad e => by cases e; exact int_blk k8) int_ones (by unfold maxLen; omega) (by omega) (by have := b8.size; omega) ?_; intro v9 w9 hown9 hg9 ho9; obtain ⟨A9, c9, rfl⟩ := own_slice hown9; have b9 : Below w.heap.size w w9 := b8.grown hg9 b8.size (fun k e => (hown8.lt k e).1))
          | (refine step_append_src (by rfl) _ _ _ (by rfl) w.heap.size 3 i0 _ 1 8 Tryz.underlying31 hi0 hz0 hz1 hz2 rfl (by decide) _ _ _ (by rfl) hown9 (some ⟨b, off, none⟩) 0 0 [] (by rfl) (by rfl) (fun e => by cases e) (fun ad e j u hj => by simp at hj) (fun u hu => by cases hu) (by unfold maxLen; omega) (by omega) (by have := b9.size; omega) ?_; intro v10 w10 hown10 hg10 ho10; (try rw [Nat.add_zero, List.append_nil] at hown10); obtain ⟨A10, c10, rfl⟩ := own_slice hown10; have b10 : Below w.heap.size w w10 := b9.grown hg10 b9.size (fun k e => (hown9.lt k e).1)))
        all_goals go_wp2_with fail
        all_goals go_ret
        all_goals exact put_end0 HV.out (by omega) hown10 b10

      · skip
        have HV : Hid (putI l n = l.take i ++ n :: l.drop i) := Lib.hid (putI_at l n i hi hN.out (fun h => absurd h hlt))
        have HT := Lib.hid (ints_take h i)
        have HDr := Lib.hid (ints_drop h i)
        have hia : i ≤ a := by omega
        have D1 : Below w.heap.size w ((w.alloc (.cells #[] 3)).drew) := ((Below.refl _ _).alloc (Nat.le_refl _) _).drew
        have D2 : Below w.heap.size w (((w.alloc (.cells #[] 3)).alloc (.cells #[.int .i64 n] 3)).drew) := (((Below.refl _ _).alloc (Nat.le_refl _) _).alloc (by simp) _).drew
        have D3 : Below w.heap.size w (((w.alloc (.cells #[.int .i64 n] 3)).alloc (.cells #[] 3)).drew) := (((Below.refl _ _).alloc (Nat.le_refl _) _).alloc (by simp) _).drew
        have hE1 := own_drew (own_empty w 3 1 w.heap.size (Nat.le_refl _))
        have hE2 := own_drew (own_below (own_empty w 3 1 w.heap.size (Nat.le_refl _)) ((Below.refl _ _).alloc (Nat.le_refl _) (.cells #[.int .i64 n] 3)))
        have hE3 := own_drew (own_empty (w.alloc (.cells #[.int .i64 n] 3)) 3 1 w.heap.size (by simp))
        rw [World.size_alloc] at hE3
        go_upto_region 6 with fail
        clear h hC LIT
        go_region_law (first
          | (refine step_append_src (by rfl) _ _ _ (by rfl) w.heap.size 3 i0 _ 1 8 Tryz.underlying31 hi0 hz0 hz1 hz2 rfl (by decide) _ 0 [] (by rfl) hE1 (some ⟨b, off, none⟩) i a ((l.take i).flatMap intC) (by rfl) (by rw [flat_len intC_len, List.length_take]; omega) (fun e => by cases e) (Flat.news intC_len (by decide) (HT.out.later D1)) (flat_ones intC_one _) (by unfold maxLen; omega) (by omega) (by first | (simp; done) | (simp; omega)) ?_; intro v8 w8 hown8 hg8 ho8; rw [Nat.zero_add, List.nil_append] at hown8; obtain ⟨A8, c8, rfl⟩ := own_slice hown8; have b8 : Below w.heap.size w w8 := D1.grown hg8 (by first | (simp; done) | (simp; omega)) (fun k e => (hE1.lt k e).1))
          | (refine step_append_src (by rfl) _ _ _ (by rfl) w.heap.size 3 i0 _ 1 8 Tryz.underlying31 hi0 hz0 hz1 hz2 rfl (by decide) _ 0 [] (by rfl) hE2 (some ⟨b, off, none⟩) i a ((l.take i).flatMap intC) (by rfl) (by rw [flat_len intC_len, List.length_take]; omega) (fun e => by cases e) (Flat.news intC_len (by decide) (HT.out.later D2)) (flat_ones intC_one _) (by unfold maxLen; omega) (by omega) (by first | (simp; done) | (simp; omega)) ?_; intro v8 w8 hown8 hg8 ho8; rw [Nat.zero_add, List.nil_append] at hown8; obtain ⟨A8, c8, rfl⟩ := own_slice hown8; have b8 : Below w.heap.size w w8 := D2.grown hg8 (by first | (simp; done) | (simp; omega)) (fun k e => (hE2.lt k e).1); have k8 := (newAt' (w.alloc (.cells #[] 3)) #[.int .i64 n] 3 (g := w.heap.size + 1) (by simp)).drew.grown hg8 (fun e => by have e2 := Option.some.inj e; dsimp only at e2; omega); have gn8 : (w.heap.size + 1, (0 : Nat)) = (w.heap.size + 1, 0) := rfl)
          | (refine step_append_src (by rfl) _ _ _ (by rfl) w.heap.size 3 i0 _ 1 8 Tryz.underlying31 hi0 hz0 hz1 hz2 rfl (by decide) _ 0 [] (by rfl) hE3 (some ⟨b, off, none⟩) i a ((l.take i).flatMap intC) (by rfl) (by rw [flat_len intC_len, List.length_take]; omega) (fun e => by cases e) (Flat.news intC_len (by decide) (HT.out.later D3)) (flat_ones intC_one _) (by unfold maxLen; omega) (by omega) (by first | (simp; done) | (simp; omega)) ?_; intro v8 w8 hown8 hg8 ho8; rw [Nat.zero_add, List.nil_append] at hown8; obtain ⟨A8, c8, rfl⟩ := own_slice hown8; have b8 : Below w.heap.size w w8 := D3.grown hg8 (by first | (simp; done) | (simp; omega)) (fun k e => (hE3.lt k e).1); have k8 := ((Blk.new w #[.int .i64 n] 3).alloc (.cells #[] 3)).drew.grown hg8 (fun e => by have e2 := Option.some.inj e; first | (simp at e2; done) | (simp at e2; omega)))
          | (have hq8 := own_below hown8 ((Below.refl w8.heap.size w8).alloc (Nat.le_refl _) (.cells #[.int .i64 n] 3)); refine step_append_src (by rfl) _ _ _ (by rfl) w.heap.size 3 i0 _ 1 8 Tryz.underlying31 hi0 hz0 hz1 hz2 rfl (by decide) _ _ _ (by rfl) hq8 (some ⟨w8.heap.size, 0, none⟩) 1 1 [.int .i64 n] (by rfl) (by rfl) (fun e => by cases e) (fun ad e => by cases e; exact int_newB w8 n _) int_ones (by unfold maxLen; omega) (by omega) (by have := b8.size; first | (simp; done) | (simp; omega)) ?_; intro v9 w9 hown9 hg9 ho9; obtain ⟨A9, c9, rfl⟩ := own_slice hown9; have b9 : Below w.heap.size w w9 := (b8.alloc b8.size (.cells #[.int .i64 n] 3)).grown hg9 (by have := b8.size; first | (simp; done) | (simp; omega)) (fun k e => (hq8.lt k e).1))
          | (refine step_append_src (by rfl) _ _ _ (by rfl) w.heap.size 3 i0 _ 1 8 Tryz.underlying31 hi0 hz0 hz1 hz2 rfl (by decide) _ _ _ (by rfl) hown8 (some ⟨w.heap.size + 1, 0, none⟩) 1 1 [.int .i64 n] (by rfl) (by rfl) (fun e => by cases e) (fun ad e => by cases e; exact int_blk k8) int_ones (by unfold maxLen; omega) (by omega) (by have := b8.size; omega) ?_; intro v9 w9 hown9 hg9 ho9; obtain ⟨A9, c9, rfl⟩ := own_slice hown9; have b9 : Below w.heap.size w w9 := b8.grown hg9 b8.size (fun k e => (hown8.lt k e).1))
          | (refine step_append_src (by rfl) _ _ _ (by rfl) w.heap.size 3 i0 _ 1 8 Tryz.underlying31 hi0 hz0 hz1 hz2 rfl (by decide) _ _ _ (by rfl) hown8 (some ⟨w.heap.size, 0, none⟩) 1 1 [.int .i64 n] (by rfl) (by rfl) (fun e => by cases e) (fun ad e => by cases e; exact int_blk k8) int_ones (by unfold maxLen; omega) (by omega) (by have := b8.size; omega) ?_; intro v9 w9 hown9 hg9 ho9; obtain ⟨A9, c9, rfl⟩ := own_slice hown9; have b9 : Below w.heap.size w w9 := b8.grown hg9 b8.size (fun k e => (hown8.lt k e).1))
          | (refine step_append_src (by rfl) _ _ _ (by rfl) w.heap.size 3 i0 _ 1 8 Tryz.underlying31 hi0 hz0 hz1 hz2 rfl (by decide) _ _ _ (by rfl) hown9 (some ⟨b, off + i, none⟩) (l.length - i) (a - i) ((l.drop i).flatMap intC) (by rfl) (by rw [flat_len intC_len, List.length_drop]) (fun e => by cases e) (Flat.news intC_len (by decide) (HDr.out.later b9)) (flat_ones intC_one _) (by unfold maxLen; omega) (by omega) (by have := b9.size; omega) ?_; intro v10 w10 hown10 hg10 ho10; (try rw [Nat.add_zero, List.append_nil] at hown10); obtain ⟨A10, c10, rfl⟩ := own_slice hown10; have b10 : Below w.heap.size w w10 := b9.grown hg10 b9.size (fun k e => (hown9.lt k e).1)))
        all_goals go_wp2_with fail
        all_goals go_ret
        all_goals exact put_end HV.out hi hown10 b10

end Go.Proofs.YtkimojiakabbcaaGreat

namespace Go.Proofs.YtkimojiakabbcaaGreat
open Go.RowKit Go.Maps

def fcC (tr : Nat) (y : CrdD) : List Int := (y.v.scales.getD tr default).cuts
def ftC (tr : Nat) (y : TreD) : List Int := nodCuts (tr : Int) y.v.nodes
theorem cutsT_eq (traits need : Int) (cl : List CrdD) (tl : List TreD) (tr : Nat) : cutsT ⟨traits, cl.map CrdD.v, tl.map TreD.v, need⟩ tr = cl.flatMap (fcC tr) ++ tl.flatMap (ftC tr) := by
  unfold cutsT
  simp only [List.flatMap_map]
  rfl
theorem fcC_eq {tr : Nat} {y : CrdD} (h : tr < y.scales.length) : fcC tr y = (y.scales[tr]).v.cuts := by
  unfold fcC CrdD.v
  simp only
  rw [getD_lt _ _ (by simpa using h)]
  simp
theorem stepsI_snoc (lo hi : Int) (cs : List Int) (n : Int) : stepsI lo hi (cs ++ [n]) = if spanIn lo hi n = true then putI (stepsI lo hi cs) n else stepsI lo hi cs := by
  unfold stepsI; rw [List.foldl_append]; rfl
theorem putI_lenR : ∀ (l : List Int) (n : Int), (putI l n).length ≤ l.length + 1 ∧ putI l n ≠ []
  | [], n => by simp [putI]
  | x :: r, n => by
    have := putI_lenR r n
    unfold putI
    split
    · simp; omega
    · split <;> simp
theorem stepsI_lenR (lo hi : Int) : ∀ (cs a : List Int), a ≠ [] → (cs.foldl (fun a c => if spanIn lo hi c = true then putI a c else a) a).length ≤ a.length + cs.length ∧ cs.foldl (fun a c => if spanIn lo hi c = true then putI a c else a) a ≠ []
  | [], a, h => ⟨by simp, h⟩
  | c :: cs, a, h => by
    rw [List.foldl_cons]
    by_cases hc : spanIn lo hi c = true
    · rw [if_pos hc]
      have h1 := putI_lenR a c
      have := stepsI_lenR lo hi cs (putI a c) h1.2
      exact ⟨by rw [List.length_cons]; omega, this.2⟩
    · rw [if_neg hc]
      have := stepsI_lenR lo hi cs a h
      exact ⟨by rw [List.length_cons]; omega, this.2⟩
theorem flatMap_leR {α β : Type} {f : α → List β} {b : Nat} : ∀ {l : List α}, (∀ x ∈ l, (f x).length ≤ b) → (l.flatMap f).length ≤ l.length * b
  | [], _ => by simp
  | x :: l, h => by
    rw [List.flatMap_cons, List.length_append, List.length_cons, Nat.succ_mul]
    have := flatMap_leR (l := l) (f := f) (b := b) (fun y hy => h y (List.mem_cons_of_mem _ hy))
    have := h x (List.mem_cons_self ..)
    omega
theorem ints_blk {w : World} {g : Nat} {n : Int} {t : TypeId} (h : Blk w g #[.int .i64 n] t) : IntsAt w w.heap.size (some ⟨g, 0, none⟩) [n] := fun k hk => by
  obtain rfl : k = 0 := by simpa using hk
  refine ⟨g, 0, rfl, h.lt, fun j hj => ?_⟩
  obtain rfl : j = 0 := by omega
  have := h.cell 0
  simpa [intC] using this
theorem fcC_len {tr : Nat} {m : MdlD} (hls : MdlLe m) {y : CrdD} (hy : y ∈ m.cards) (h : tr < y.scales.length) : (fcC tr y).length ≤ 10 := by
  rw [fcC_eq h]; exact (hls.scl y hy _ (List.getElem_mem h)).cuts
theorem ftC_len {tr : Nat} {m : MdlD} (hls : MdlLe m) {y : TreD} (hy : y ∈ m.trees) : (ftC tr y).length ≤ 20 := by
  unfold ftC nodCuts
  rw [List.length_map]
  exact Nat.le_trans (List.length_filter_le _ _) (hls.nodes y hy)
theorem nodCuts_snocR (k : Int) (l : List Nod) (n : Nod) : nodCuts k (l ++ [n]) = if n.tr = k then nodCuts k l ++ [n.cut] else nodCuts k l := by
  unfold nodCuts
  rw [List.filter_append, List.map_append]
  by_cases h : n.tr = k <;> simp [h]
/-- What is put is not too much. -/
theorem stepsI_fit (lo hi : Int) (cs : List Int) (h : cs.length ≤ 1000) : (stepsI lo hi cs).length ≤ 100000 ∧ stepsI lo hi cs ≠ [] := by
  have := stepsI_lenR lo hi cs [lo] (by simp)
  simp only [List.length_singleton] at this
  exact ⟨by unfold stepsI; omega, this.2⟩

/-- The steps, in new memory. -/
def StepS (w : World) (l : List Int) (e : Ending) (w' : World) : Prop :=
  ∃ A' c', e = .returned (.slice A' l.length c') ∧ IntsAt w' w'.heap.size A' l ∧ l.length ≤ c' ∧ Below w.heap.size w w' ∧ ∀ ad, A' = some ad → w.heap.size ≤ ad.block

set_option maxRecDepth 100000 in
set_option maxHeartbeats 8000000 in
theorem steps6_any (traits need : Int) (cl : List CrdD) (tl : List TreD) (C T : Option Addr) (c t : Nat) (tr : Nat) (lo hi : Int) (w : World) (h : MdlAt w w.heap.size ⟨traits, cl, C, c, tl, T, t, need⟩) (hls : MdlLe ⟨traits, cl, C, c, tl, T, t, need⟩) (htr : ∀ y ∈ cl, tr < y.scales.length) :
    Calls Tryz.prog 43 #[.agg #[.int .i64 traits, .slice C cl.length c, .slice T tl.length t, .int .i64 need], .int .i64 tr, .agg #[.int .i64 lo, .int .i64 hi]] w (StepS w (stepsI lo hi (cutsT ⟨traits, cl.map CrdD.v, tl.map TreD.v, need⟩ tr))) := by
  rw [cutsT_eq]
  have b1 := (Below.refl w.heap.size w).alloc (Nat.le_refl _) (.cells #[.int .i64 traits, .slice C cl.length c, .slice T tl.length t, .int .i64 need] 29)
  have k1 := Blk.new w #[.int .i64 traits, .slice C cl.length c, .slice T tl.length t, .int .i64 need] 29
  have b2 := b1.alloc b1.size (.cells #[.int .i64 lo, .int .i64 hi] 43)
  have ks := newAt' (w.alloc (.cells #[.int .i64 traits, .slice C cl.length c, .slice T tl.length t, .int .i64 need] 29)) #[.int .i64 lo, .int .i64 hi] 43 (g := w.heap.size + 1) (by simp)
  have b3 := b2.alloc b2.size (.cells #[.int .i64 lo] 3)
  have ko := newAt' ((w.alloc (.cells #[.int .i64 traits, .slice C cl.length c, .slice T tl.length t, .int .i64 need] 29)).alloc (.cells #[.int .i64 lo, .int .i64 hi] 43)) #[.int .i64 lo] 3 (g := w.heap.size + 1 + 1) (by simp)
  have km := (k1.alloc (.cells #[.int .i64 lo, .int .i64 hi] 43)).alloc (.cells #[.int .i64 lo] 3)
  have kp := ks.alloc (.cells #[.int .i64 lo] 3)
  have k1c := k1.cell
  have ksc := ks.cell
  have h3 := h.later b3
  have HFc := Lib.hid (fun y hy => fcC_len (tr := tr) (m := ⟨traits, cl, C, c, tl, T, t, need⟩) hls (y := y) hy (htr y hy))
  have HFt := Lib.hid (fun y hy => ftC_len (tr := tr) (m := ⟨traits, cl, C, c, tl, T, t, need⟩) hls (y := y) hy)
  have LC := hls.cards
  have LT := hls.trees
  dsimp only at LC LT
  have HS := Lib.hid (fun y hy (s : SclD) hs => (hls.scl y hy s hs).cuts)
  have HN := Lib.hid (fun y hy => hls.nodes y hy)
  have HSl := Lib.hid (fun y hy => hls.scales y hy)
  clear h hls b1 b2
  go_enter Tryz.func43, Tryz.ntmps43
  go_wp2_with fail
  generalize hW : ((w.alloc (.cells #[.int .i64 traits, .slice C cl.length c, .slice T tl.length t, .int .i64 need] 29)).alloc (.cells #[.int .i64 lo, .int .i64 hi] 43)).alloc (.cells #[.int .i64 lo] 3) = W2 at *
  have gm := km.lt
  have gp := kp.lt
  clear hW k1 ks k1c ksc
  go_loopw [7, 8] (fun oo ii wr => ∃ (i : Nat) (A : Option Addr) (a : Nat) (l : List Int), i ≤ cl.length ∧ oo = .slice A l.length a ∧ ii = .int .i64 i ∧ Hid (l = stepsI lo hi ((cl.take i).flatMap (fcC tr))) ∧ Hid (IntsAt wr wr.heap.size A l ∧ l.length ≤ a ∧ Below W2.heap.size W2 wr ∧ (∀ ad, A = some ad → w.heap.size ≤ ad.block))) (fun _ ii _ => cl.length - (vInt ii).toNat)
  case atStart => exact ⟨0, some ⟨w.heap.size + 1 + 1, 0, none⟩, 1, [lo], Nat.zero_le _, rfl, rfl, Lib.hid (by simp [stepsI]), Lib.hid ⟨ints_blk ko, by simp, Below.refl _ _, fun ad e => by cases e; show w.heap.size ≤ w.heap.size + 1 + 1; omega⟩⟩
  case round =>
    obtain ⟨i, A, a, l, hil0, rfl, rfl, hL, hR⟩ := hrel
    by_cases hlt : i < cl.length
    · have hB := hR.out.2.2.1
      have kmr := (km.below hB gm).cell
      have hil : (i : Int) < (cl.length : Int) := by omega
      have hmem := List.getElem_mem hlt
      obtain ⟨b, off, rfl, hb, _, _, c2⟩ := crds_at h3.cards.row hlt
      have htl := htr _ hmem
      obtain ⟨b', off', hSA, hb', c3, _, _⟩ := scls_at (h3.cards.each _ hmem).row htl
      have hcu := ((h3.cards.each _ hmem).each _ (List.getElem_mem htl)).cuts
      have hfc := fcC_eq htl
      have HT : Hid ((cl.take (i + 1)).flatMap (fcC tr) = (cl.take i).flatMap (fcC tr) ++ (cl[i].scales[tr]).v.cuts) := Lib.hid (by rw [List.take_succ_eq_append_getElem hlt, List.flatMap_append, List.flatMap_singleton, hfc])
      have hpl : ((cl.take i).flatMap (fcC tr)).length ≤ 60 := by
        have := flatMap_leR (l := cl.take i) (f := fcC tr) (b := 10) (fun x hx => HFc.out x (List.mem_of_mem_take hx))
        rw [List.length_take] at this
        have : min i cl.length ≤ 6 := by omega
        omega
      have hcl := HS.out _ hmem _ (List.getElem_mem htl)
      have hts := HSl.out _ hmem
      have htl2 : (tr : Int) < (cl[i].scales.length : Int) := by omega
      rw [hSA] at c2
      have HPl := Lib.hid hpl
      generalize hq : (cl.take i).flatMap (fcC tr) = pre at *
      clear hfc hmem hq hpl hts
      generalize cl[i].scales[tr] = z at *
      generalize cl[i].scales.length = n at *
      generalize cl[i].s = s at *
      clear hSA
      have c2r := (hB.cell (p := ⟨b, off + i * 3 + 2, none⟩) hb).trans c2
      have c3r := (hB.cell (p := ⟨b', off' + tr * 3, none⟩) hb').trans c3
      go_wp2_with fail
      go_loopw [7, 9] (fun oo ii wq => ∃ (k : Nat) (A : Option Addr) (a : Nat) (l : List Int), k ≤ z.v.cuts.length ∧ oo = .slice A l.length a ∧ ii = .int .i64 k ∧ Hid (l = stepsI lo hi (pre ++ z.v.cuts.take k)) ∧ Hid (IntsAt wq wq.heap.size A l ∧ l.length ≤ a ∧ Below W2.heap.size W2 wq ∧ (∀ ad, A = some ad → w.heap.size ≤ ad.block))) (fun _ ii _ => z.v.cuts.length - (vInt ii).toNat)
      case atStart => exact ⟨0, A, a, l, Nat.zero_le _, rfl, rfl, Lib.hid (by rw [hL.out]; simp), hR⟩
      case round =>
        clear hL hR hB kmr c2r c3r
        obtain ⟨k, A1, a1, l1, hk0, rfl, rfl, hL, hR⟩ := hrel
        have hB := hR.out.2.2.1
        have kmr := (km.below hB gm).cell
        have kpr := (kp.below hB gp).cell
        have c2r := (hB.cell (p := ⟨b, off + i * 3 + 2, none⟩) hb).trans c2
        have c3r := (hB.cell (p := ⟨b', off' + tr * 3, none⟩) hb').trans c3
        by_cases hkl : k < z.v.cuts.length
        · have hkl2 : (k : Int) < (z.v.cuts.length : Int) := by omega
          obtain ⟨bx, offx, hZA, hbx, cx⟩ := ints_at hcu hkl
          rw [hZA] at c3r
          have cxr := (hB.cell (p := ⟨bx, offx + k, none⟩) hbx).trans cx
          have HT1 : Hid (stepsI lo hi (pre ++ z.v.cuts.take (k + 1)) = if spanIn lo hi z.v.cuts[k] = true then putI l1 z.v.cuts[k] else l1) := Lib.hid (by rw [List.take_succ_eq_append_getElem hkl, ← List.append_assoc, stepsI_snoc, ← hL.out])
          have hfit := stepsI_fit lo hi (pre ++ z.v.cuts.take k) (by have := HPl.out; rw [List.length_append, List.length_take]; omega)
          rw [← hL.out] at hfit
          have HPut := Lib.hid (put6_any l1 z.v.cuts[k] A1 a1 _ hR.out.1 hfit.2 hfit.1 hR.out.2.1)
          clear hfit cx
          generalize z.v.cuts[k] = x at *
          generalize hzl : z.v.cuts.length = zn at *
          by_cases q1 : lo < x
          · by_cases q2 : x ≤ hi
            · have HJ : Hid (stepsI lo hi (pre ++ z.v.cuts.take (k + 1)) = putI l1 x) := Lib.hid (by rw [HT1.out, if_pos (by unfold spanIn; simp [q1, q2])])
              clear HT1 hL
              go_wp2_with (go_at_call 67; (with_reducible refine (HPut.out).mono ?_); rintro e w8 ⟨A8, c8, rfl, hA8, hc8, h8, f8⟩)
              go_roundw
              case rel => exact ⟨k + 1, A8, c8, _, by omega, rfl, by go_num, Lib.hid HJ.out.symm, Lib.hid ⟨hA8, hc8, hB.trans (h8.mono hB.size), fun ad e => f8.elim (fun q => hR.out.2.2.2 ad (q ▸ e)) (fun q => Nat.le_trans (Nat.le_trans b3.size hB.size) (q ad e))⟩⟩
              case measure => simp [vInt]; omega
            · have HJ : Hid (stepsI lo hi (pre ++ z.v.cuts.take (k + 1)) = l1) := Lib.hid (by rw [HT1.out, if_neg (by unfold spanIn; simp [q2])])
              clear HT1 hL HPut
              go_wp2_with fail
              go_roundw
              case rel => exact ⟨k + 1, A1, a1, _, by omega, rfl, by go_num, Lib.hid HJ.out.symm, hR⟩
              case measure => simp [vInt]; omega
          · have HJ : Hid (stepsI lo hi (pre ++ z.v.cuts.take (k + 1)) = l1) := Lib.hid (by rw [HT1.out, if_neg (by unfold spanIn; simp [q1])])
            clear HT1 hL HPut
            go_wp2_with fail
            go_roundw
            case rel => exact ⟨k + 1, A1, a1, _, by omega, rfl, by go_num, Lib.hid HJ.out.symm, hR⟩
            case measure => simp [vInt]; omega
        · obtain rfl : k = z.v.cuts.length := by omega
          have hkl2 : ¬ (z.v.cuts.length : Int) < (z.v.cuts.length : Int) := by omega
          have HJ : Hid (l1 = stepsI lo hi ((cl.take (i + 1)).flatMap (fcC tr))) := Lib.hid (by rw [hL.out, HT.out, List.take_length])
          clear hL HT
          go_wp2_with fail
          go_roundw
          case rel => exact ⟨i + 1, A1, a1, l1, by omega, rfl, by go_num, HJ, hR⟩
          case measure => simp [vInt]; omega
    · have hil : ¬ (i : Int) < (cl.length : Int) := by omega
      obtain rfl : i = cl.length := by omega
      have hB := hR.out.2.2.1
      have kmr := (km.below hB gm).cell
      have HL : Hid (l = stepsI lo hi (cl.flatMap (fcC tr))) := Lib.hid (by rw [hL.out, List.take_length])
      have hpl : (cl.flatMap (fcC tr)).length ≤ 60 := by
        have := flatMap_leR (l := cl) (f := fcC tr) (b := 10) HFc.out
        omega
      have HPl := Lib.hid hpl
      clear hL hpl htr
      generalize cl.flatMap (fcC tr) = pre0 at *
      go_wp2_with fail
      clear kmr
      go_loopw [7, 11] (fun oo ii wr => ∃ (i : Nat) (A : Option Addr) (a : Nat) (l : List Int), i ≤ tl.length ∧ oo = .slice A l.length a ∧ ii = .int .i64 i ∧ Hid (l = stepsI lo hi (pre0 ++ (tl.take i).flatMap (ftC tr))) ∧ Hid (IntsAt wr wr.heap.size A l ∧ l.length ≤ a ∧ Below W2.heap.size W2 wr ∧ (∀ ad, A = some ad → w.heap.size ≤ ad.block))) (fun _ ii _ => tl.length - (vInt ii).toNat)
      case atStart => exact ⟨0, A, a, l, Nat.zero_le _, rfl, rfl, Lib.hid (by rw [HL.out]; simp), hR⟩
      case round =>
        clear HL hR hB
        obtain ⟨i, A, a, l, hil0, rfl, rfl, hL, hR⟩ := hrel
        have hB := hR.out.2.2.1
        have kmr := (km.below hB gm).cell
        by_cases hlt : i < tl.length
        · have hil : (i : Int) < (tl.length : Int) := by omega
          have hmem := List.getElem_mem hlt
          obtain ⟨b, off, rfl, hb, _, c1⟩ := tres_at h3.trees.row hlt
          have hnd := h3.trees.each _ hmem
          have HT : Hid ((tl.take (i + 1)).flatMap (ftC tr) = (tl.take i).flatMap (ftC tr) ++ nodCuts (tr : Int) tl[i].v.nodes) := Lib.hid (by rw [List.take_succ_eq_append_getElem hlt, List.flatMap_append, List.flatMap_singleton]; rfl)
          have hpl : ((tl.take i).flatMap (ftC tr)).length ≤ 120 := by
            have := flatMap_leR (l := tl.take i) (f := ftC tr) (b := 20) (fun x hx => HFt.out x (List.mem_of_mem_take hx))
            rw [List.length_take] at this
            have : min i tl.length ≤ 6 := by omega
            omega
          have hnl := HN.out _ hmem
          have HPl2 := Lib.hid hpl
          generalize hq : (tl.take i).flatMap (ftC tr) = pre at *
          clear hmem hq hpl
          generalize tl[i].v.nodes = z at *
          generalize tl[i].T = TA at *
          generalize tl[i].t = s at *
          have c1r := (hB.cell (p := ⟨b, off + i * 2 + 1, none⟩) hb).trans c1
          go_wp2_with fail
          go_loopw [7, 12] (fun oo ii wq => ∃ (k : Nat) (A : Option Addr) (a : Nat) (l : List Int), k ≤ z.length ∧ oo = .slice A l.length a ∧ ii = .int .i64 k ∧ Hid (l = stepsI lo hi (pre0 ++ pre ++ nodCuts (tr : Int) (z.take k))) ∧ Hid (IntsAt wq wq.heap.size A l ∧ l.length ≤ a ∧ Below W2.heap.size W2 wq ∧ (∀ ad, A = some ad → w.heap.size ≤ ad.block))) (fun _ ii _ => z.length - (vInt ii).toNat)
          case atStart => exact ⟨0, A, a, l, Nat.zero_le _, rfl, rfl, Lib.hid (by rw [hL.out]; simp [nodCuts]), hR⟩
          case round =>
            clear hL hR hB kmr c1r
            obtain ⟨k, A1, a1, l1, hk0, rfl, rfl, hL, hR⟩ := hrel
            have hB := hR.out.2.2.1
            have kmr := (km.below hB gm).cell
            have c1r := (hB.cell (p := ⟨b, off + i * 2 + 1, none⟩) hb).trans c1
            by_cases hkl : k < z.length
            · have hkl2 : (k : Int) < (z.length : Int) := by omega
              obtain ⟨bx, offx, rfl, hbx, d0, d1, d2, d3, d4⟩ := nods_at hnd hkl
              have e0 := (hB.cell (p := ⟨bx, offx + k * 5, none⟩) hbx).trans d0
              have e1 := (hB.cell (p := ⟨bx, offx + k * 5 + 1, none⟩) hbx).trans d1
              have e2 := (hB.cell (p := ⟨bx, offx + k * 5 + 2, none⟩) hbx).trans d2
              have e3 := (hB.cell (p := ⟨bx, offx + k * 5 + 3, none⟩) hbx).trans d3
              have e4 := (hB.cell (p := ⟨bx, offx + k * 5 + 4, none⟩) hbx).trans d4
              have HT1 : Hid (stepsI lo hi (pre0 ++ pre ++ nodCuts (tr : Int) (z.take (k + 1))) = if z[k].tr = (tr : Int) then (if spanIn lo hi z[k].cut = true then putI l1 z[k].cut else l1) else l1) := Lib.hid (by
                rw [List.take_succ_eq_append_getElem hkl, nodCuts_snocR]
                by_cases h : z[k].tr = (tr : Int)
                · rw [if_pos h, if_pos h, ← List.append_assoc, stepsI_snoc, ← hL.out]
                · rw [if_neg h, if_neg h, ← hL.out])
              have hnk : (nodCuts (tr : Int) (z.take k)).length ≤ 20 := by
                unfold nodCuts
                rw [List.length_map]
                refine Nat.le_trans (List.length_filter_le _ _) ?_
                rw [List.length_take]; omega
              have hfit := stepsI_fit lo hi (pre0 ++ pre ++ nodCuts (tr : Int) (z.take k)) (by have := HPl.out; have := HPl2.out; rw [List.length_append, List.length_append]; omega)
              rw [← hL.out] at hfit
              have ba := (Below.refl wr.heap.size wr).alloc (Nat.le_refl _) (.cells #[.int .i64 z[k].tr, .int .i64 z[k].cut, .int .i64 z[k].low, .int .i64 z[k].high, .int .i64 z[k].pts] 38)
              have HPut := Lib.hid (put6_any l1 z[k].cut A1 a1 _ (hR.out.1.later ba) hfit.2 hfit.1 hR.out.2.1)
              have hBa := hB.trans (ba.mono hB.size)
              have kn := Blk.new wr #[.int .i64 z[k].tr, .int .i64 z[k].cut, .int .i64 z[k].low, .int .i64 z[k].high, .int .i64 z[k].pts] 38
              have knc := kn.cell
              have kpr := ((kp.below hB gp).alloc (.cells #[.int .i64 z[k].tr, .int .i64 z[k].cut, .int .i64 z[k].low, .int .i64 z[k].high, .int .i64 z[k].pts] 38)).cell
              have HRa := Lib.hid (hR.out.1.later ba)
              have HCa := Lib.hid hR.out.2.1
              have HFa := Lib.hid hR.out.2.2.2
              clear hfit d0 d1 d2 d3 d4 hnk ba kn hR hB
              generalize z[k] = x at *
              generalize hzl : z.length = zn at *
              by_cases q0 : x.tr = (tr : Int)
              · have q0b : (x.tr == (tr : Int)) = true := by simp [q0]
                by_cases q1 : lo < x.cut
                · by_cases q2 : x.cut ≤ hi
                  · have HJ : Hid (stepsI lo hi (pre0 ++ pre ++ nodCuts (tr : Int) (z.take (k + 1))) = putI l1 x.cut) := Lib.hid (by rw [HT1.out, if_pos q0, if_pos (by unfold spanIn; simp [q1, q2])])
                    clear HT1 hL q0
                    go_wp2_with (go_at_call 67; (with_reducible refine (HPut.out).mono ?_); rintro e w8 ⟨A8, c8, rfl, hA8, hc8, h8, f8⟩)
                    go_roundw
                    case rel => exact ⟨k + 1, A8, c8, _, by omega, rfl, by go_num, Lib.hid HJ.out.symm, Lib.hid ⟨hA8, hc8, hBa.trans (h8.mono hBa.size), fun ad e => f8.elim (fun q => HFa.out ad (q ▸ e)) (fun q => Nat.le_trans (Nat.le_trans b3.size hBa.size) (q ad e))⟩⟩
                    case measure => simp [vInt]; omega
                  · have HJ : Hid (stepsI lo hi (pre0 ++ pre ++ nodCuts (tr : Int) (z.take (k + 1))) = l1) := Lib.hid (by rw [HT1.out, if_pos q0, if_neg (by unfold spanIn; simp [q2])])
                    clear HT1 hL HPut q0
                    go_wp2_with fail
                    go_roundw
                    case rel => exact ⟨k + 1, A1, a1, _, by omega, rfl, by go_num, Lib.hid HJ.out.symm, Lib.hid ⟨HRa.out, HCa.out, hBa, HFa.out⟩⟩
                    case measure => simp [vInt]; omega
                · have HJ : Hid (stepsI lo hi (pre0 ++ pre ++ nodCuts (tr : Int) (z.take (k + 1))) = l1) := Lib.hid (by rw [HT1.out, if_pos q0, if_neg (by unfold spanIn; simp [q1])])
                  clear HT1 hL HPut q0
                  go_wp2_with fail
                  go_roundw
                  case rel => exact ⟨k + 1, A1, a1, _, by omega, rfl, by go_num, Lib.hid HJ.out.symm, Lib.hid ⟨HRa.out, HCa.out, hBa, HFa.out⟩⟩
                  case measure => simp [vInt]; omega
              · have q0b : (x.tr == (tr : Int)) = false := by simpa using q0
                have HJ : Hid (stepsI lo hi (pre0 ++ pre ++ nodCuts (tr : Int) (z.take (k + 1))) = l1) := Lib.hid (by rw [HT1.out, if_neg q0])
                clear HT1 hL HPut q0
                go_wp2_with fail
                go_roundw
                case rel => exact ⟨k + 1, A1, a1, _, by omega, rfl, by go_num, Lib.hid HJ.out.symm, Lib.hid ⟨HRa.out, HCa.out, hBa, HFa.out⟩⟩
                case measure => simp [vInt]; omega
            · obtain rfl : k = z.length := by omega
              have hkl2 : ¬ (z.length : Int) < (z.length : Int) := by omega
              have HJ : Hid (l1 = stepsI lo hi (pre0 ++ (tl.take (i + 1)).flatMap (ftC tr))) := Lib.hid (by rw [hL.out, HT.out, List.take_length, List.append_assoc])
              clear hL HT
              go_wp2_with fail
              go_roundw
              case rel => exact ⟨i + 1, A1, a1, l1, by omega, rfl, by go_num, HJ, hR⟩
              case measure => simp [vInt]; omega
        · have hil : ¬ (i : Int) < (tl.length : Int) := by omega
          obtain rfl : i = tl.length := by omega
          have HJ : Hid (l = stepsI lo hi (pre0 ++ tl.flatMap (ftC tr))) := Lib.hid (by rw [hL.out, List.take_length])
          clear hL
          go_wp2_with fail
          go_ret
          exact ⟨A, a, by rw [← HJ.out]; rfl, by rw [← HJ.out]; exact hR.out.1, by rw [← HJ.out]; exact hR.out.2.1, b3.trans (hR.out.2.2.1.mono b3.size), hR.out.2.2.2⟩
end Go.Proofs.YtkimojiakabbcaaGreat

namespace Go.Proofs.YtkimojiakabbcaaGreat
open Go.RowKit Go.Maps

set_option maxRecDepth 100000 in
theorem values6_len (traits : Int) (X1 X2 X3 : Value) (x : List Int) (A : Option Addr) (a : Nat) (w : World) (hl : x.length ≤ maxLen) (hq : ¬ (x.length : Int) = traits) :
    Calls Tryz.prog 42 #[.agg #[.int .i64 traits, X1, X2, X3], .slice A x.length a] w fun e w' => e = .returned (.bool false) ∧ Below w.heap.size w w' := by
  have b1 := (Below.refl w.heap.size w).alloc (Nat.le_refl _) (.cells #[.int .i64 traits, X1, X2, X3] 29)
  have k1 := Blk.new w #[.int .i64 traits, X1, X2, X3] 29
  have k1c := k1.cell
  have hw : IntKind.i64.wrap (x.length : Int) = (x.length : Int) := by unfold maxLen at hl; exact IntWalk.i64_in _ (by omega)
  have hq2 : ((x.length : Int) != traits) = true := by simpa using hq
  clear hq
  go_enter Tryz.func42, Tryz.ntmps42
  go_wp2_with fail
  go_ret
  exact ⟨rfl, b1⟩
/-- Whether a model and values are ready. -/
def rdyB (m : MdlD) (M : Mdl) (x : List Int) : Bool := mdlLeB m && (mdlB M && valsB M.traits x)
set_option maxRecDepth 100000 in
set_option maxHeartbeats 4000000 in
theorem ready_all (traits need : Int) (cl : List CrdD) (tl : List TreD) (C T : Option Addr) (c t : Nat) (x : List Int) (X : Option Addr) (xc : Nat) (w : World) (h : MdlAt w w.heap.size ⟨traits, cl, C, c, tl, T, t, need⟩) (hx : IntsAt w w.heap.size X x) (hxm : x.length ≤ maxLen) :
    Calls Tryz.prog 24 #[.agg #[.int .i64 traits, .slice C cl.length c, .slice T tl.length t, .int .i64 need], .slice X x.length xc] w fun e w' => e = .returned (.bool (rdyB ⟨traits, cl, C, c, tl, T, t, need⟩ ⟨traits, cl.map CrdD.v, tl.map TreD.v, need⟩ x)) ∧ Below w.heap.size w w' := by
  have b1 := (Below.refl w.heap.size w).alloc (Nat.le_refl _) (.cells #[.int .i64 traits, .slice C cl.length c, .slice T tl.length t, .int .i64 need] 29)
  have k1 := Blk.new w #[.int .i64 traits, .slice C cl.length c, .slice T tl.length t, .int .i64 need] 29
  have HGr := Lib.hid (fun W hb => great6_all traits need cl tl C T c t W (h.later hb))
  have q1 := k1.lt
  have k1c := k1.cell
  unfold rdyB
  cases hg : mdlLeB ⟨traits, cl, C, c, tl, T, t, need⟩ with
  | false =>
    rw [hg] at HGr
    clear h hx hg
    rw [Bool.false_and]
    go_enter Tryz.func24, Tryz.ntmps24
    go_wp2_with (go_at_call 20; (with_reducible refine (HGr.out _ b1).mono ?_); rintro e w1 ⟨rfl, h1⟩)
    go_ret
    exact ⟨rfl, b1.trans (h1.mono b1.size)⟩
  | true =>
    rw [hg] at HGr
    have hls := mdlLe_of hg
    have HCk := Lib.hid (fun W hb => check6_all traits need cl tl C T c t W (h.later hb) hls)
    clear hg
    rw [Bool.true_and]
    cases hM : mdlB ⟨traits, cl.map CrdD.v, tl.map TreD.v, need⟩ with
    | false =>
      have hE : mdlE ⟨traits, cl.map CrdD.v, tl.map TreD.v, need⟩ = 60 := by unfold mdlE; rw [hM]; rfl
      rw [hE] at HCk
      clear h hx hls hM hE
      rw [Bool.false_and]
      go_enter Tryz.func24, Tryz.ntmps24
      go_wp2_with (first
        | (go_at_call 20; (with_reducible refine (HGr.out _ b1).mono ?_); rintro e w1 ⟨rfl, h1⟩; have b2 := b1.trans (h1.mono b1.size); have k2c := (k1.below h1 q1).cell)
        | (go_at_call 27; (with_reducible refine (HCk.out _ b2).mono ?_); rintro e w2 ⟨rfl, h2⟩))
      go_ret
      exact ⟨rfl, b2.trans (h2.mono b2.size)⟩
    | true =>
      have hE : mdlE ⟨traits, cl.map CrdD.v, tl.map TreD.v, need⟩ = 0 := by unfold mdlE; exact if_pos hM
      rw [hE] at HCk
      have ht := (mdlB_parts hM).1
      rw [Bool.true_and]
      have HVa : Hid (∀ W, Below w.heap.size w W → Calls Tryz.prog 42 #[.agg #[.int .i64 traits, .slice C cl.length c, .slice T tl.length t, .int .i64 need], .slice X x.length xc] W fun e w' => e = .returned (.bool (valsB traits x)) ∧ Below W.heap.size W w') := Lib.hid (fun W hb => by
        by_cases hl : x.length ≤ 10
        · exact values6_any traits _ _ _ x X xc W (hx.later hb) hl
        · have hv : valsB traits x = false := by
            dsimp only at ht
            unfold valsB
            rw [decide_eq_false (by omega), Bool.false_and]
          rw [hv]
          exact values6_len traits _ _ _ x X xc W hxm (by dsimp only at ht; omega))
      show Calls Tryz.prog 24 #[.agg #[.int .i64 traits, .slice C cl.length c, .slice T tl.length t, .int .i64 need], .slice X x.length xc] w fun e w' => e = .returned (.bool (valsB traits x)) ∧ Below w.heap.size w w'
      generalize valsB traits x = V at *
      clear h hx hls hM hE ht
      go_enter Tryz.func24, Tryz.ntmps24
      go_wp2_with (first
        | (go_at_call 20; (with_reducible refine (HGr.out _ b1).mono ?_); rintro e w1 ⟨rfl, h1⟩; have b2 := b1.trans (h1.mono b1.size); have k2 := k1.below h1 q1; have k2c := k2.cell)
        | (go_at_call 27; (with_reducible refine (HCk.out _ b2).mono ?_); rintro e w2 ⟨rfl, h2⟩; have b3 := b2.trans (h2.mono b2.size); have k3c := (k2.below h2 k2.lt).cell)
        | (go_at_call 42; (with_reducible refine (HVa.out _ b3).mono ?_); rintro e w3 ⟨rfl, h3⟩))
      go_ret
      exact ⟨rfl, b3.trans (h3.mono b3.size)⟩
set_option maxRecDepth 100000 in
theorem stepsR_all (traits need : Int) (cl : List CrdD) (tl : List TreD) (C T : Option Addr) (c t : Nat) (tr : Nat) (w : World) (h : MdlAt w w.heap.size ⟨traits, cl, C, c, tl, T, t, need⟩) (hls : MdlLe ⟨traits, cl, C, c, tl, T, t, need⟩) (htr : ∀ y ∈ cl, tr < y.scales.length) :
    Calls Tryz.prog 25 #[.agg #[.int .i64 traits, .slice C cl.length c, .slice T tl.length t, .int .i64 need], .int .i64 tr] w (StepS w (stepsI 0 1000000 (cutsT ⟨traits, cl.map CrdD.v, tl.map TreD.v, need⟩ tr))) := by
  have b1 := (Below.refl w.heap.size w).alloc (Nat.le_refl _) (.cells #[.int .i64 traits, .slice C cl.length c, .slice T tl.length t, .int .i64 need] 29)
  have k1 := Blk.new w #[.int .i64 traits, .slice C cl.length c, .slice T tl.length t, .int .i64 need] 29
  have k1c := k1.cell
  have HS := Lib.hid (fun W hb => steps6_any traits need cl tl C T c t tr 0 1000000 W (h.later hb) hls htr)
  have hf : (stepsI 0 1000000 (cutsT ⟨traits, cl.map CrdD.v, tl.map TreD.v, need⟩ tr)).length = (stepsI 0 1000000 (cutsT ⟨traits, cl.map CrdD.v, tl.map TreD.v, need⟩ tr)).length := rfl
  clear h hls htr hf
  generalize stepsI 0 1000000 (cutsT ⟨traits, cl.map CrdD.v, tl.map TreD.v, need⟩ tr) = L at *
  go_enter Tryz.func25, Tryz.ntmps25
  go_wp2_with (go_at_call 43; first
    | ((with_reducible refine (HS.out _ b1).mono ?_); rintro e w1 ⟨A', c', rfl, hA, hc, h1, hf⟩)
    | ((with_reducible refine (HS.out _ (b1.alloc b1.size _)).mono ?_); rintro e w1 ⟨A', c', rfl, hA, hc, h1, hf⟩))
  go_ret
  exact ⟨A', c', rfl, hA, hc, b1.trans (h1.mono b1.size), fun ad e => Nat.le_trans b1.size (hf ad e)⟩
end Go.Proofs.YtkimojiakabbcaaGreat
