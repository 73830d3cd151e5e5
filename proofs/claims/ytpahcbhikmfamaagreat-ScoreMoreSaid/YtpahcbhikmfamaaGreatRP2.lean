/- Reasons by the program: what may be otherwise; all sets. -/
import Derived.Test.YtpahcbhikmfamaaGreatRP1
import Derived.Test.YtpahcbhikmfamaaGreatBCut
import Derived.Test.YtpahcbhikmfamaaGreatSBP1

namespace Go.Proofs.YtpahcbhikmfamaaGreat
open Go.RowKit Go.Maps

theorem two_new (W : World) (x y : Value) (t : TypeId) : ∀ j u, [x, y][j]? = some u → (W.alloc (.cells #[x, y] t)).cell? ((⟨W.heap.size, 0, none⟩ : Addr).add j) = some u := fun j u hj => by
  rw [WideShapes.add_plain, Nat.zero_add]
  refine ((Blk.new W #[x, y] t).cell j).trans ?_
  rw [← hj]; simp
theorem sp_putR {w : World} {g : Nat} {a0 a1 c0 c1 : Value} {t : TypeId} (h : Blk w g #[a0, a1] t) : Blk ((w.setCell ⟨g, 0, none⟩ c0).setCell ⟨g, 1, none⟩ c1) g #[c0, c1] t := by
  have := (h.set 0 c0).set 1 c1
  simpa using this
theorem spnC_oneR (x : Spn) : ∀ u ∈ spnC x, u.oneCell' = true := fun u hu => by
  unfold spnC at hu
  rcases List.mem_cons.1 hu with rfl | hu
  · rfl
  · rw [List.mem_singleton] at hu; subst hu; rfl
theorem spanInfoR : (Tryz.prog.info? 54).map (fun i => (i.zero, i.size, i.bytes)) = some (some (.agg #[.int .i64 0, .int .i64 0]), 2, 16) := by kernel_rfl
set_option maxRecDepth 100000 in
set_option maxHeartbeats 4000000 in
theorem freeP_any (x s : List Int) (A B : Option Addr) (ca cb : Nat) (w : World) (hx : IntsAt w w.heap.size A x) (hs : IntsAt w w.heap.size B s) (hlx : x.length ≤ 1000) (hls : s.length ≤ 1000) :
    Calls Tryz.prog 40 #[.slice A x.length ca, .slice B s.length cb] w fun e w' => ∃ A' c', e = .returned (.slice A' x.length c') ∧ w'.ownsRow w.heap.size 54 2 (.slice A' x.length c') x.length ((freeL x s).flatMap spnC) ∧ Below w.heap.size w w' := by
  obtain ⟨i4, hi4, hq0, hq1, hq2⟩ := info_parts spanInfoR
  have hfl := freeL_len x s
  go_enter Tryz.func40, Tryz.ntmps40
  go_wp2_with fail
  go_loopw [5, 11] (fun ll ii wr => ∃ (i : Nat) (A' : Option Addr) (c' : Nat), i ≤ x.length ∧ ii = .int .i64 i ∧ ll = .slice A' i c' ∧ Hid (wr.ownsRow w.heap.size 54 2 (.slice A' i c') i (((freeL x s).take i).flatMap spnC) ∧ Below w.heap.size w wr)) (fun _ ii _ => x.length - (vInt ii).toNat)
  case atStart => exact ⟨0, none, 0, Nat.zero_le _, rfl, rfl, Lib.hid ⟨World.ownsRow_nil _ _ _ _, Below.refl _ _⟩⟩
  case round =>
    obtain ⟨i, A2, c2, hi, rfl, rfl, hR⟩ := hrel
    obtain ⟨hO, hB⟩ := hR.out
    by_cases hlt : i < x.length
    · have hil : (i : Int) < (x.length : Int) := by omega
      have hi1 := Lib.hid (show i + 1 ≤ x.length by omega)
      obtain ⟨b, off, rfl, hb, c0⟩ := ints_at (hx.later hB) hlt
      have HT := Lib.hid (freeL_take x s hlt)
      generalize x[i] = v at *
      have bn := (Below.refl wr.heap.size wr).alloc (Nat.le_refl _) (.cells #[.int .i64 v, .int .i64 v] 54)
      have kn := Blk.new wr #[.int .i64 v, .int .i64 v] 54
      have knc := kn.cell
      have kf0 := kn.free 0
      have kf1 := kn.free 1
      have HCo := Lib.hid (containsP_any s B cb i (wr.alloc (.cells #[.int .i64 v, .int .i64 v] 54)) ((hs.later hB).later bn) hls)
      have hbs := hB.size
      by_cases hm : (i : Int) ∈ s
      · rw [if_pos hm] at HT
        rw [decide_eq_true hm] at HCo
        have bm := (Below.refl wr.heap.size wr).alloc (Nat.le_refl _) (.cells #[.int .i64 0, .int .i64 1000000] 54)
        have hoA := (hO.alloc (.cells #[.int .i64 0, .int .i64 1000000] 54)).alloc (.cells #[.int .i64 0, .int .i64 1000000] 54)
        clear hR kn hm hx hs hO
        go_wp2_with (first
          | (go_at_call 54; (with_reducible refine (HCo.out).mono ?_); rintro e w1 ⟨rfl, rfl⟩)
          | (at_builtin; refine wpList_append_own_at _ rfl _ _ 58 rfl w.heap.size 54 i4 _ 2 16 Tryz.underlying58 hi4 hq0 hq1 hq2 rfl (by decide) _ _ _ rfl hoA ⟨wr.heap.size + 1, 0, none⟩ 1 1 [.int .i64 0, .int .i64 1000000] rfl rfl (by have := two_new (wr.alloc (.cells #[.int .i64 0, .int .i64 1000000] 54)) (.int .i64 0) (.int .i64 1000000) 54; rw [World.size_alloc] at this; exact this) (spnC_oneR ⟨0, 1000000⟩) (by unfold maxLen; omega) (by omega) (by simp; omega) ?_; intro v' w6 hown6 hg6 _ _; obtain ⟨A3, c3', rfl⟩ := own_slice hown6))
        go_roundw
        case rel =>
          refine ⟨i + 1, A3, c3', hi1.out, by go_num, rfl, Lib.hid ⟨?_, ?_⟩⟩
          · rw [HT.out, List.flatMap_append]; exact hown6
          · exact (hB.trans ((bm.alloc (by simp) _).mono hbs)).grown hg6 (by simp; omega) (fun k e => (hoA.lt k e).1)
        case measure => have h9 := hi1.out; simp [vInt]; omega
      · rw [if_neg hm] at HT
        rw [decide_eq_false hm] at HCo
        have hoA := (hO.alloc (.cells #[.int .i64 v, .int .i64 v] 54)).alloc (.cells #[.int .i64 v, .int .i64 v] 54)
        clear hR kn hm hx hs hO
        go_wp2_with (first
          | (go_at_call 54; (with_reducible refine (HCo.out).mono ?_); rintro e w1 ⟨rfl, rfl⟩)
          | (at_builtin; refine wpList_append_own_at _ rfl _ _ 58 rfl w.heap.size 54 i4 _ 2 16 Tryz.underlying58 hi4 hq0 hq1 hq2 rfl (by decide) _ _ _ rfl hoA ⟨wr.heap.size + 1, 0, none⟩ 1 1 [.int .i64 v, .int .i64 v] rfl rfl (by have := two_new (wr.alloc (.cells #[.int .i64 v, .int .i64 v] 54)) (.int .i64 v) (.int .i64 v) 54; rw [World.size_alloc] at this; exact this) (spnC_oneR ⟨v, v⟩) (by unfold maxLen; omega) (by omega) (by simp; omega) ?_; intro v' w6 hown6 hg6 _ _; obtain ⟨A3, c3', rfl⟩ := own_slice hown6))
        go_roundw
        case rel =>
          refine ⟨i + 1, A3, c3', hi1.out, by go_num, rfl, Lib.hid ⟨?_, ?_⟩⟩
          · rw [HT.out, List.flatMap_append]; exact hown6
          · exact (hB.trans ((bn.alloc bn.size _).mono hbs)).grown hg6 (by simp; omega) (fun k e => (hoA.lt k e).1)
        case measure => have h9 := hi1.out; simp [vInt]; omega
    · have hil : ¬ (i : Int) < (x.length : Int) := by omega
      obtain rfl : i = x.length := by omega
      rw [List.take_of_length_le (by omega)] at hO
      go_wp2_with fail
      go_ret
      exact ⟨A2, c2, rfl, hO, hB⟩
end Go.Proofs.YtpahcbhikmfamaaGreat
