/- Where a number is; kinds of questions, by the program. Written by v16.py. -/
import Derived.Test.YtbkekdbabkncfaaGreatVP15

namespace Go.Proofs.YtbkekdbabkncfaaGreat
open Go.RowKit Go.Maps

/-- Where a number is. -/
def fndI (l : List Int) (a : Int) : Option Nat := (List.range l.length).find? fun i => decide (l.getD i 0 = a)
theorem fndI_some {l : List Int} {a : Int} {i : Nat} (hi : i < l.length) (h : l[i] = a) (hn : ∀ j, (hj : j < l.length) → j < i → l[j] ≠ a) : fndI l a = some i := by
  unfold fndI
  rw [List.find?_range_eq_some]
  refine ⟨by rw [getD_lt l _ hi]; simpa using h, by simpa using hi, fun j hj => ?_⟩
  rw [getD_lt l _ (by omega : j < l.length)]
  simpa using hn j (by omega) hj
theorem fndI_none {l : List Int} {a : Int} (hn : ∀ j, (hj : j < l.length) → l[j] ≠ a) : fndI l a = none := by
  unfold fndI
  rw [List.find?_eq_none]
  intro j hj
  rw [List.mem_range] at hj
  rw [getD_lt l _ hj]
  simpa using hn j hj

set_option maxRecDepth 100000 in
set_option maxHeartbeats 4000000 in
theorem about1_any (x a : Int) (pa : Nat) (W : World) (hk : W.cell? ⟨pa, 0, none⟩ = some (.int .i64 a)) (_hpa : pa < W.heap.size) :
    Calls Tryz.prog 65 #[.int .i64 x, .pointer (some ⟨pa, 0, none⟩)] W fun e w' => e = .returned (.bool (decide (x = a))) ∧ Below W.heap.size W w' := by
  have he : decide (x = a) = (x == a) := by
    by_cases h : x = a <;> simp [h]
  rw [he]
  go_enter Tryz.func65, Tryz.ntmps65
  go_wp2
  go_ret
  exact ⟨by first | rfl | simp, by first | exact Below.refl _ _ | exact (Below.refl _ _).drew⟩

set_option maxRecDepth 100000 in
set_option maxHeartbeats 8000000 in
theorem findI_any (l : List Int) (A : Option Addr) (c : Nat) (a : Int) (pa : Nat) (w : World) (h : IntsAt w w.heap.size A l) (hl : l.length ≤ 1000) (hk : w.cell? ⟨pa, 0, none⟩ = some (.int .i64 a)) (hpa : pa < w.heap.size) :
    Calls Tryz.prog 64 #[.slice A l.length c, .int .i64 0, .func (.func 65) #[] #[.pointer (some ⟨pa, 0, none⟩)]] w fun e w' => e = .returned (.tuple #[.int .i64 ((fndI l a).getD 0 : Nat), .bool (fndI l a).isSome]) ∧ Below w.heap.size w w' := by
  have HS := Lib.hid (fun x W (hb : Below w.heap.size w W) => about1_any x a pa W ((hb.cell (p := ⟨pa, 0, none⟩) hpa).trans hk) (Nat.lt_of_lt_of_le hpa hb.size))
  have HH := Lib.hid h
  clear h hk
  go_enter Tryz.func64, Tryz.ntmps64
  go_wp2_with fail
  go_loopw [8] (fun ii wr => ∃ i : Nat, i ≤ l.length ∧ ii = .int .i64 i ∧ Hid ((∀ j, (hj : j < l.length) → j < i → l[j] ≠ a) ∧ Below w.heap.size w wr)) (fun ii _ => l.length - (vInt ii).toNat)
  case atStart => exact ⟨0, Nat.zero_le _, by first | rfl | go_num, Lib.hid ⟨fun j _ h1 => by omega, Below.refl _ _⟩⟩
  case round =>
    obtain ⟨i, hi, rfl, hR⟩ := hrel
    obtain ⟨hall, hB⟩ := hR.out
    clear hR
    by_cases hlt : i < l.length
    · have hil : (i : Int) < (l.length : Int) := by omega
      obtain ⟨b, off, rfl, hbb, c0⟩ := ints_at (HH.out.later hB) hlt
      have HF : Hid (decide (l[i] = a) = true → fndI l a = some i) := Lib.hid (fun e => fndI_some hlt (by simpa using e) hall)
      have HN : Hid (decide (l[i] = a) = false → ∀ j, (hj : j < l.length) → j < i + 1 → l[j] ≠ a) := Lib.hid (fun e j hj h1 => by
        by_cases hji : j = i
        · subst hji; simpa using e
        · exact hall j hj (by omega))
      have HSi := Lib.hid (HS.out l[i] wr hB)
      generalize hp : decide (l[i] = a) = p at *
      clear hp hall
      generalize l[i] = y at *
      cases p with
      | true =>
        have HR := Lib.hid (HF.out rfl)
        clear HF HN
        go_wp2_with (go_at_call 65; (with_reducible refine (HSi.out).mono ?_); rintro e w2 ⟨rfl, h2⟩)
        show bodyPost _ _ _ _ _ _
        exact bodyPost_ret (v := .tuple #[.int .i64 i, .bool true]) (by simp [results, Tryz.results64, go_sem]) rfl ⟨by rw [HR.out]; rfl, hB.trans (h2.mono hB.size)⟩
      | false =>
        have HR := Lib.hid (HN.out rfl)
        clear HF HN
        go_wp2_with (go_at_call 65; (with_reducible refine (HSi.out).mono ?_); rintro e w2 ⟨rfl, h2⟩)
        go_roundw
        case rel => exact ⟨i + 1, by omega, by go_num, Lib.hid ⟨HR.out, hB.trans (h2.mono hB.size)⟩⟩
        case measure => simp [vInt]; omega
    · have hil : ¬ (i : Int) < (l.length : Int) := by omega
      have HR : Hid (fndI l a = none) := Lib.hid (fndI_none (fun j hj => hall j hj (by omega)))
      clear hall
      go_wp2_with fail
      show bodyPost _ _ _ _ _ _
      exact bodyPost_ret (v := .tuple #[.int .i64 0, .bool false]) (by simp [results, Tryz.results64, go_sem]) rfl ⟨by rw [HR.out]; rfl, hB⟩

set_option maxRecDepth 100000 in
set_option maxHeartbeats 4000000 in
theorem kind_any (W : Option Addr) (n c : Nat) (col clip step : Int) (w : World) :
    Calls Tryz.prog 99 #[.agg #[.slice W n c, .int .i64 col, .int .i64 clip, .int .i64 step]] w fun e w' => e = .returned (.agg #[.int .i64 col, .int .i64 clip]) ∧ Below w.heap.size w w' := by
  have b1 := (Below.refl w.heap.size w).alloc (Nat.le_refl _) (.cells #[.slice W n c, .int .i64 col, .int .i64 clip, .int .i64 step] 25)
  have k1 := Blk.new w #[.slice W n c, .int .i64 col, .int .i64 clip, .int .i64 step] 25
  have k1c := k1.cell
  go_enter Tryz.func99, Tryz.ntmps99
  go_wp2_with fail
  have r0 := (newAt' (w.alloc (.cells #[.slice W n c, .int .i64 col, .int .i64 clip, .int .i64 step] 25)) #[.int .i64 col, .int .i64 clip] 150 (g := w.heap.size + 1) (by simp)).cell
  exact bodyPost_ret (v := .agg #[.int .i64 col, .int .i64 clip]) (by simp [results, Tryz.results99, go_sem, r0]) rfl ⟨rfl, b1.alloc b1.size _⟩
end Go.Proofs.YtbkekdbabkncfaaGreat
