/- Fractions made whole, by the program. Written by v10.py. -/
import Derived.Test.YtbkekdbabkncfaaGreatW3
import Derived.Test.YtbkekdbabkncfaaGreatUPrg9

namespace Go.Proofs.YtbkekdbabkncfaaGreat
open Go.RowKit Go.Maps

/-- The least number that clears fractions, from m on. -/
def clrL (m : Int) (l : List Frc) : Int := l.foldl (fun m f => m * (f.d / gcdI m f.d)) m
def clrB : Int → List Frc → Bool
  | m, [] => inN m 1 1000000000
  | m, f :: r => inN m 1 1000000000 && inN f.d 1 1000000 && clrB (m * (f.d / gcdI m f.d)) r
theorem clrB_drop : ∀ (l : List Frc) (m : Int) (i : Nat), i ≤ l.length → clrB m l = true → clrB (clrL m (l.take i)) (l.drop i) = true
  | _, _, 0, _, h => by simpa [clrL] using h
  | [], _, i + 1, hi, _ => by simp at hi
  | f :: r, m, i + 1, hi, h => by
    simp only [clrB, Bool.and_eq_true] at h
    have := clrB_drop r (m * (f.d / gcdI m f.d)) i (by simpa using hi) h.2
    simpa [clrL] using this
theorem clr_step {m : Int} {l : List Frc} (hb : clrB m l = true) {i : Nat} (hi : i < l.length) : (1 ≤ clrL m (l.take i) ∧ clrL m (l.take i) ≤ 1000000000) ∧ (1 ≤ l[i].d ∧ l[i].d ≤ 1000000) ∧ clrL m (l.take (i + 1)) = clrL m (l.take i) * (l[i].d / gcdI (clrL m (l.take i)) l[i].d) ∧ (1 ≤ clrL m (l.take (i + 1)) ∧ clrL m (l.take (i + 1)) ≤ 1000000000) := by
  have h1 := clrB_drop l m i (by omega) hb
  have h2 := clrB_drop l m (i + 1) (by omega) hb
  rw [List.drop_eq_getElem_cons hi] at h1
  simp only [clrB, Bool.and_eq_true, inN_iff] at h1
  have h3 : 1 ≤ clrL m (l.take (i + 1)) ∧ clrL m (l.take (i + 1)) ≤ 1000000000 := by
    cases hd : l.drop (i + 1) with
    | nil => rw [hd] at h2; simpa [clrB, inN_iff] using h2
    | cons y r => rw [hd] at h2; simp only [clrB, Bool.and_eq_true, inN_iff] at h2; exact h2.1.1
  refine ⟨h1.1.1, h1.1.2, ?_, h3⟩
  unfold clrL
  rw [List.take_succ_eq_append_getElem hi, List.foldl_append]
  rfl
/-- Fractions times a number. -/
def mltL (m : Int) (l : List Frc) : List Int := l.map fun f => m.tdiv f.d * f.n

set_option maxRecDepth 100000 in
set_option maxHeartbeats 8000000 in
theorem clearing_any (l : List Frc) (A : Option Addr) (c : Nat) (w : World) (h : FrcAt w w.heap.size A l) (hl : l.length ≤ 1000) (hb : clrB 1 l = true) :
    Calls Tryz.prog 68 #[.slice A l.length c] w fun e w' => e = .returned (.int .i64 (clrL 1 l)) ∧ Below w.heap.size w w' := by
  have HC := Lib.hid (fun a b A c W h1 h2 h3 => common_any a b A c W h1 h2 h3)
  have HH := Lib.hid h
  have HB := Lib.hid hb
  clear h hb
  go_enter Tryz.func68, Tryz.ntmps68
  go_wp2_with fail
  have HI0 : Hid ((1 : Int) = clrL 1 (l.take 0) ∧ Below w.heap.size w w) := Lib.hid ⟨by simp [clrL], Below.refl _ _⟩
  go_loopw [3, 8] (fun mm ii wr => ∃ (i : Nat) (m : Int), i ≤ l.length ∧ mm = .int .i64 m ∧ ii = .int .i64 i ∧ Hid (m = clrL 1 (l.take i) ∧ Below w.heap.size w wr)) (fun _ ii _ => l.length - (vInt ii).toNat)
  case atStart => exact ⟨0, 1, Nat.zero_le _, rfl, rfl, HI0⟩
  case round =>
    obtain ⟨i, m, hi, rfl, rfl, hR⟩ := hrel
    clear HI0
    by_cases hlt : i < l.length
    · have hil : (i : Int) < (l.length : Int) := by omega
      obtain ⟨hm, hB⟩ := hR.out
      obtain ⟨b, off, rfl, hbb, c0, c1⟩ := frc_at (HH.out.later hB) hlt
      obtain ⟨hm1, hd1, hst, hm2⟩ := clr_step HB.out hlt
      rw [← hm] at hm1 hst
      rw [hst] at hm2
      have HM := Lib.hid hst
      clear hm hst hR
      generalize l[i] = y at *
      obtain ⟨yn, yd⟩ := y
      dsimp only at *
      have hg := gcdI_le (a := m) (b := yd) (by omega)
      have hgz : ¬ gcdI m yd = 0 := by omega
      have htd := tdiv_gcd_right m yd
      have hwr : IntKind.i64.wrap (m * (yd / gcdI m yd)) = m * (yd / gcdI m yd) := IntWalk.i64_in _ (by omega)
      have hq0 : -9223372036854775808 ≤ yd / gcdI m yd ∧ yd / gcdI m yd ≤ 9223372036854775807 := by
        have h1 : 0 ≤ yd / gcdI m yd := Int.ediv_nonneg (by omega) (by omega)
        have h2 : yd / gcdI m yd ≤ yd := Int.ediv_le_self _ (by omega)
        omega
      have hwq : IntKind.i64.wrap (yd / gcdI m yd) = yd / gcdI m yd := IntWalk.i64_in _ hq0
      have HCv : Hid (∀ (V : World) (b : Nat), b = V.heap.size → Calls Tryz.prog 97 #[.slice (some ⟨b, 0, none⟩) 2 2] (V.alloc (.cells #[.int .i64 m, .int .i64 yd] 3)).drew fun e w' => e = .returned (.int .i64 (gcdI m yd)) ∧ Below (V.alloc (.cells #[.int .i64 m, .int .i64 yd] 3)).heap.size (V.alloc (.cells #[.int .i64 m, .int .i64 yd] 3)) w') := Lib.hid (fun V b hb => by
        subst hb
        have h2 : IntsAt (V.alloc (.cells #[.int .i64 m, .int .i64 yd] 3)) (V.alloc (.cells #[.int .i64 m, .int .i64 yd] 3)).heap.size (some ⟨V.heap.size, 0, none⟩) [m, yd] := by rw [World.size_alloc]; exact two_new V m yd _
        exact (HC.out m yd _ 2 _ (h2.later (Below.refl _ _).drew) (by omega) (by omega)).mono (fun _ _ h => ⟨h.1, (Below.refl _ _).drew.trans h.2⟩))
      have kb := Blk.new wr #[.int .i64 yn, .int .i64 yd] 129
      have bA := (Below.refl wr.heap.size wr).alloc (Nat.le_refl _) (.cells #[.int .i64 yn, .int .i64 yd] 129)
      go_upto_region 5 with fail
      generalize hW4 : wr.alloc (.cells #[.int .i64 yn, .int .i64 yd] 129) = W4 at *
      clear hW4
      have g4 := kb.lt
      have D0 : Below W4.heap.size W4 W4.drew := (Below.refl _ _).drew
      have D1a : Below W4.heap.size W4 (W4.alloc (.cells #[.int .i64 m, .int .i64 yd] 3)) := (Below.refl _ _).alloc (Nat.le_refl _) _
      have D1 := D1a.drew
      have SK : ∀ W', Below W4.heap.size W4 W' → Below w.heap.size w W' ∧ (∀ i, W'.cell? ⟨wr.heap.size, i, none⟩ = (#[.int .i64 yn, .int .i64 yd] : Array Value)[i]?) := fun W' hW => ⟨hB.trans ((bA.trans (hW.mono bA.size)).mono hB.size), (kb.below hW g4).cell⟩
      go_region_held3 (fun W' => Below w.heap.size w W' ∧ (∀ i, W'.cell? ⟨wr.heap.size, i, none⟩ = (#[.int .i64 yn, .int .i64 yd] : Array Value)[i]?)) (first | with_reducible exact SK _ D0 | with_reducible exact SK _ D1 | with_reducible exact SK _ d5)
        (first
          | (go_at_call 97; refine (HCv.out _ _ (by first | rfl | simp)).mono ?_; rintro en w5 ⟨rfl, h5⟩; have d5 := D1a.trans (h5.mono (by simp))))
      all_goals have e5 := hB.trans ((bA.trans (d5.mono bA.size)).mono hB.size)
      all_goals go_wp2_with fail
      all_goals go_roundw
      all_goals first
        | (simp [vInt]; omega; done)
        | exact ⟨i + 1, _, by omega, rfl, by go_num, Lib.hid ⟨HM.out.symm, e5⟩⟩
    · have hil : ¬ (i : Int) < (l.length : Int) := by omega
      obtain rfl : i = l.length := by omega
      obtain ⟨hm, hB⟩ := hR.out
      rw [List.take_length] at hm
      have HM := Lib.hid hm
      clear hR hm
      go_wp2_with fail
      go_ret
      exact ⟨by rw [HM.out]; rfl, hB⟩
/-- Whole numbers in new memory. -/
def IntsPost (w : World) (l : List Int) (e : Ending) (w' : World) : Prop := ∃ A' c', e = .returned (.slice A' l.length c') ∧ FlatP 1 intC w' (fun b => w.heap.size ≤ b) A' l ∧ Below w.heap.size w w'
def mltB (m : Int) (l : List Frc) : Bool := inN m (-1000000000) 1000000000 && l.all fun f => inN f.n (-1000000) 1000000 && inN f.d 1 1000000

set_option maxRecDepth 100000 in
set_option maxHeartbeats 8000000 in
theorem multiplied_any (l : List Frc) (A : Option Addr) (c : Nat) (m : Int) (w : World) (h : FrcAt w w.heap.size A l) (hl : l.length ≤ 1000) (hb : mltB m l = true) :
    Calls Tryz.prog 69 #[.slice A l.length c, .int .i64 m] w (IntsPost w (mltL m l)) := by
  obtain ⟨i4, hi4, hq0, hq1, hq2⟩ := info_parts intInfo
  have HH := Lib.hid h
  have HLen : Hid ((mltL m l).length = l.length) := Lib.hid (by simp [mltL])
  unfold mltB at hb
  rw [Bool.and_eq_true, inN_iff, List.all_eq_true] at hb
  obtain ⟨hm, hb⟩ := hb
  have HB := Lib.hid (fun x hx => by have := hb x hx; rw [Bool.and_eq_true, inN_iff, inN_iff] at this; exact this : ∀ x ∈ l, (-1000000 ≤ x.n ∧ x.n ≤ 1000000) ∧ 1 ≤ x.d ∧ x.d ≤ 1000000)
  clear h hb
  go_enter Tryz.func69, Tryz.ntmps69
  go_wp2_with fail
  have HI0 : Hid (w.ownsRow w.heap.size 3 1 (.slice none 0 0) 0 (((mltL m l).take 0).flatMap intC) ∧ Below w.heap.size w w) := Lib.hid ⟨World.ownsRow_nil _ _ _ _, Below.refl _ _⟩
  go_loopw [5, 10] (fun oo ii wr => ∃ (i : Nat) (A2 : Option Addr) (c2 : Nat), i ≤ l.length ∧ oo = .slice A2 i c2 ∧ ii = .int .i64 i ∧ Hid (wr.ownsRow w.heap.size 3 1 (.slice A2 i c2) i (((mltL m l).take i).flatMap intC) ∧ Below w.heap.size w wr)) (fun _ ii _ => l.length - (vInt ii).toNat)
  case atStart => exact ⟨0, none, 0, Nat.zero_le _, rfl, rfl, HI0⟩
  case round =>
    obtain ⟨i, A2, c2, hi, rfl, rfl, hR⟩ := hrel
    clear HI0
    obtain ⟨ho, hB⟩ := hR.out
    have HO := Lib.hid ho
    clear hR ho
    by_cases hlt : i < l.length
    · have hil : (i : Int) < (l.length : Int) := by omega
      obtain ⟨b, off, rfl, hbb, c0, c1⟩ := frc_at (HH.out.later hB) hlt
      have hy := HB.out l[i] (List.getElem_mem hlt)
      have HT : Hid (((mltL m l).take (i + 1)).flatMap intC = ((mltL m l).take i).flatMap intC ++ intC (m.tdiv l[i].d * l[i].n)) := Lib.hid (by
        rw [List.take_succ_eq_append_getElem (by rw [HLen.out]; exact hlt), List.flatMap_append]
        congr 1
        simp [mltL])
      generalize l[i] = y at *
      obtain ⟨yn, yd⟩ := y
      dsimp only at *
      obtain ⟨⟨hy1, hy2⟩, hy3, hy4⟩ := hy
      have hyz : ¬ yd = 0 := by omega
      have hq3 : -1000000000 ≤ m.tdiv yd ∧ m.tdiv yd ≤ 1000000000 := by
        have h1 : (m.tdiv yd).natAbs ≤ m.natAbs := by
          rw [Int.natAbs_tdiv]
          exact Nat.div_le_self _ _
        omega
      have hq4 : -9000000000000000 ≤ m.tdiv yd * yn ∧ m.tdiv yd * yn ≤ 9000000000000000 := by
        have h1 : (m.tdiv yd * yn).natAbs ≤ 1000000000 * 1000000 := by
          rw [Int.natAbs_mul]
          exact Nat.mul_le_mul (by omega) (by omega)
        omega
      have hw1 : IntKind.i64.wrap (m.tdiv yd) = m.tdiv yd := IntWalk.i64_in _ (by omega)
      have hw2 : IntKind.i64.wrap (m.tdiv yd * yn) = m.tdiv yd * yn := IntWalk.i64_in _ (by omega)
      have kb := Blk.new wr #[.int .i64 yn, .int .i64 yd] 129
      have bA := (Below.refl wr.heap.size wr).alloc (Nat.le_refl _) (.cells #[.int .i64 yn, .int .i64 yd] 129)
      go_upto_region 5 with fail
      have HOA := Lib.hid (own_below HO.out bA)
      have hBA := hB.trans (bA.mono hB.size)
      generalize hW4 : wr.alloc (.cells #[.int .i64 yn, .int .i64 yd] 129) = W4 at *
      clear hW4 c0 c1 hB
      have kbc := kb.cell
      have hBs := hBA.size
      have HOB := Lib.hid (HOA.out.alloc (.cells #[.int .i64 (m.tdiv yd * yn)] 3))
      have HNw := Lib.hid (int_new W4 (m.tdiv yd * yn) 3)
      go_region_law (first
        | (refine step_append_opt (by rfl) _ _ _ (by rfl) w.heap.size 3 i4 _ 1 8 Tryz.underlying32 hi4 hq0 hq1 hq2 rfl (by decide) _ _ _ (by rfl) (own_below HOB.out (Below.refl _ _).drew) (some ⟨W4.heap.size, 0, none⟩) 1 1 (intC (m.tdiv yd * yn)) (by rfl) (fun e => by cases e) (by rfl) (fun ad e => by cases e; exact HNw.out) (intC_one _) (by unfold maxLen; omega) (by omega) (by simp; omega) ?_; intro v' w5 hown5 hg5 ho5; obtain ⟨A3, c3, rfl⟩ := own_slice hown5))
      all_goals have hB5 := ((hBA.alloc hBA.size (.cells #[.int .i64 (m.tdiv yd * yn)] 3)).drew).grown hg5 (by simp; omega) (fun k e => (HOB.out.lt k e).1)
      all_goals have HF : Hid (w5.ownsRow w.heap.size 3 1 (.slice A3 (i + 1) c3) (i + 1) (((mltL m l).take (i + 1)).flatMap intC) ∧ Below w.heap.size w w5) := Lib.hid ⟨by rw [HT.out]; exact hown5, hB5⟩
      all_goals clear hB5 hown5 hg5 ho5
      all_goals go_wp2_with fail
      all_goals go_roundw
      all_goals first
        | (simp [vInt]; omega; done)
        | exact ⟨i + 1, A3, c3, by omega, rfl, by go_num, Lib.hid ⟨own_below HF.out.1 (Below.refl _ _).drew, HF.out.2.drew⟩⟩
        | exact ⟨i + 1, A3, c3, by omega, rfl, by go_num, HF⟩
    · have hil : ¬ (i : Int) < (l.length : Int) := by omega
      obtain rfl : i = l.length := by omega
      have HE : Hid (FlatP 1 intC wr (fun b => w.heap.size ≤ b) A2 (mltL m l)) := Lib.hid (FlatP.of_own (c := c2) intC_len (by decide) (by rw [HLen.out]; have := HO.out; rwa [List.take_of_length_le (by rw [HLen.out]; exact Nat.le_refl _)] at this) (fun b h1 _ _ => h1))
      clear HO
      go_wp2_with fail
      go_ret
      exact ⟨A2, c2, by rw [HLen.out]; rfl, HE.out, hB⟩
end Go.Proofs.YtbkekdbabkncfaaGreat
