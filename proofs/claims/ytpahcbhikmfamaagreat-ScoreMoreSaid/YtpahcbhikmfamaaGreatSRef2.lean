/- Cards, trees, by the reference: whether they are valid. -/
import Derived.Test.YtpahcbhikmfamaaGreatSRef1

namespace Go.Proofs.YtpahcbhikmfamaaGreat
open Go.RowKit Go.Maps

theorem all_stop {α : Type} {p : α → Bool} {l : List α} {i : Nat} (hi : i < l.length) (h : p l[i] = false) : l.all p = false := by
  cases hb : l.all p with
  | false => rfl
  | true => rw [List.all_eq_true.1 hb _ (List.getElem_mem hi)] at h; cases h
theorem all_next {α : Type} {p : α → Bool} {l : List α} {i : Nat} (hi : i < l.length) (h : (l.take i).all p = true) (hv : p l[i] = true) : (l.take (i + 1)).all p = true := by
  rw [List.take_succ_eq_append_getElem hi, List.all_append, h]; simp [hv]

set_option maxRecDepth 100000 in
set_option maxHeartbeats 4000000 in
theorem card6_all (wt base : Int) (l : List SclD) (S : Option Addr) (s : Nat) (traits : Int) (w : World) (h : SclsAt w w.heap.size S l) (hl : l.length ≤ 10) (hls : ∀ y ∈ l, SclLe y.v) :
    Calls Tryz.prog 28 #[.agg #[.int .i64 wt, .int .i64 base, .slice S l.length s], .int .i64 traits] w fun e w' => e = .returned (.bool (crdB traits ⟨wt, base, l.map SclD.v⟩)) ∧ Below w.heap.size w w' := by
  have b1 := (Below.refl w.heap.size w).alloc (Nat.le_refl _) (.cells #[.int .i64 wt, .int .i64 base, .slice S l.length s] 37)
  have k1 := Blk.new w #[.int .i64 wt, .int .i64 base, .slice S l.length s] 37
  have g1 := k1.lt
  have k1c := k1.cell
  have HW := Lib.hid (fun W => within6_any wt 0 1000 W)
  have HP := Lib.hid (fun W => points6_any base W)
  have HD : Hid (crdB traits ⟨wt, base, l.map SclD.v⟩ = (inN wt 0 1000 && ptB base && decide ((l.length : Int) = traits) && (l.map SclD.v).all sclB)) := Lib.hid (by unfold crdB; simp)
  generalize crdB traits ⟨wt, base, l.map SclD.v⟩ = V at *
  cases q1 : inN wt 0 1000 with
  | false =>
    have Hv : Hid (V = false) := Lib.hid (by rw [HD.out, q1]; rfl)
    rw [q1] at HW
    clear h hls HD q1 HP
    go_enter Tryz.func28, Tryz.ntmps28
    go_wp2_with (go_at_call 26; (with_reducible refine (HW.out _).mono ?_); rintro e w1 ⟨rfl, rfl⟩)
    go_ret
    exact ⟨by rw [Hv.out]; rfl, b1⟩
  | true =>
    rw [q1] at HW
    cases q2 : ptB base with
    | false =>
      have Hv : Hid (V = false) := Lib.hid (by rw [HD.out, q1, q2]; rfl)
      rw [q2] at HP
      clear h hls HD q1 q2
      go_enter Tryz.func28, Tryz.ntmps28
      go_wp2_with (first
        | (go_at_call 26; (with_reducible refine (HW.out _).mono ?_); rintro e w1 ⟨rfl, rfl⟩)
        | (go_at_call 27; (with_reducible refine (HP.out _).mono ?_); rintro e w1 ⟨rfl, rfl⟩))
      go_ret
      exact ⟨by rw [Hv.out]; rfl, b1⟩
    | true =>
      rw [q2] at HP
      by_cases q3 : (l.length : Int) = traits
      · have HE : Hid (V = (l.map SclD.v).all sclB) := Lib.hid (by rw [HD.out, q1, q2, decide_eq_true q3]; simp)
        have q3' : ((l.length : Int) != traits) = false := by simp [q3]
        subst q3
        clear q1 q2 HD
        go_enter Tryz.func28, Tryz.ntmps28
        go_wp2_with (first
          | (go_at_call 26; (with_reducible refine (HW.out _).mono ?_); rintro e w1 ⟨rfl, rfl⟩)
          | (go_at_call 27; (with_reducible refine (HP.out _).mono ?_); rintro e w1 ⟨rfl, rfl⟩))
        have h1 := h.later b1
        generalize hW1 : w.alloc (.cells #[.int .i64 wt, .int .i64 base, .slice S l.length s] 37) = W1 at *
        clear hW1 k1c h HW HP q3'
        go_loopw [5] (fun ii wr => ∃ i : Nat, i ≤ l.length ∧ ii = .int .i64 i ∧ Hid ((l.take i).all (fun y => sclB y.v) = true ∧ Below W1.heap.size W1 wr)) (fun ii _ => l.length - (vInt ii).toNat)
        case atStart => exact ⟨0, Nat.zero_le _, rfl, Lib.hid ⟨by simp, Below.refl _ _⟩⟩
        case round =>
          obtain ⟨i, hi, rfl, hR⟩ := hrel
          obtain ⟨hS, hB⟩ := hR.out
          have k2 := k1.below hB g1
          have b2 := b1.trans (hB.mono b1.size)
          have k2c := k2.cell
          by_cases hlt : i < l.length
          · have hil : (i : Int) < (l.length : Int) := by omega
            have h2 := h1.later hB
            obtain ⟨b, off, rfl, hb, c0, c1, c2⟩ := scls_at h2.row hlt
            have HC := Lib.hid (scale6_any l[i] wr (h2.each _ (List.getElem_mem hlt)) (hls _ (List.getElem_mem hlt)))
            cases hv : sclB l[i].v with
            | false =>
              have Hv : Hid (V = false) := Lib.hid (by rw [HE.out]; exact all_stop (i := i) (by simpa using hlt) (by simpa using hv))
              rw [hv] at HC
              clear hS hR h2 h1 HE hv
              generalize l[i] = y at *
              go_wp2_with (go_at_call 41; (with_reducible refine (HC.out).mono ?_); rintro e w1 ⟨rfl, h5⟩)
              go_ret
              exact ⟨by rw [Hv.out]; rfl, b2.trans (h5.mono b2.size)⟩
            | true =>
              have HJ : Hid ((l.take (i + 1)).all (fun y => sclB y.v) = true) := Lib.hid (all_next (p := fun y : SclD => sclB y.v) hlt hS hv)
              rw [hv] at HC
              clear hS hR h2 hv
              generalize l[i] = y at *
              go_wp2_with (go_at_call 41; (with_reducible refine (HC.out).mono ?_); rintro e w1 ⟨rfl, h5⟩)
              go_roundw
              case rel => exact ⟨i + 1, by omega, by go_num, Lib.hid ⟨HJ.out, hB.trans (h5.mono hB.size)⟩⟩
              case measure => simp [vInt]; omega
          · have hil : ¬ (i : Int) < (l.length : Int) := by omega
            obtain rfl : i = l.length := by omega
            rw [List.take_length] at hS
            have Hv : Hid (V = true) := Lib.hid (by rw [HE.out, List.all_map]; exact hS)
            clear hR hS
            go_wp2_with fail
            go_ret
            exact ⟨by rw [Hv.out]; rfl, b2⟩
      · have Hv : Hid (V = false) := Lib.hid (by rw [HD.out, decide_eq_false q3]; simp)
        have q3' : ((l.length : Int) != traits) = true := by simpa using q3
        clear h hls HD q1 q2 q3
        go_enter Tryz.func28, Tryz.ntmps28
        go_wp2_with (first
          | (go_at_call 26; (with_reducible refine (HW.out _).mono ?_); rintro e w1 ⟨rfl, rfl⟩)
          | (go_at_call 27; (with_reducible refine (HP.out _).mono ?_); rintro e w1 ⟨rfl, rfl⟩))
        go_ret
        exact ⟨by rw [Hv.out]; rfl, b1⟩
theorem card6_any (x : CrdD) (traits : Int) (w : World) (h : SclsAt w w.heap.size x.S x.scales) (hl : x.scales.length ≤ 10) (hls : ∀ y ∈ x.scales, SclLe y.v) :
    Calls Tryz.prog 28 #[.agg #[.int .i64 x.weight, .int .i64 x.base, .slice x.S x.scales.length x.s], .int .i64 traits] w fun e w' => e = .returned (.bool (crdB traits x.v)) ∧ Below w.heap.size w w' := card6_all x.weight x.base x.scales x.S x.s traits w h hl hls
end Go.Proofs.YtpahcbhikmfamaaGreat
