/- Reasons by the program: all sets, in order. -/
import Derived.Test.YtpahcbhikmfamaaGreatRP4

namespace Go.Proofs.YtpahcbhikmfamaaGreat
open Go.RowKit Go.Maps

/-- All sets, as the program hands them back. -/
def SetsS (w : World) (T : Nat) (e : Ending) (w' : World) : Prop := ∃ A' c' n, ∃ ls : List StD, e = .returned (.slice A' n c') ∧ ls.length = n ∧ StFin w' A' ls ∧ ls.map StD.l = setsS T ∧ Below w.heap.size w w'
set_option maxRecDepth 100000 in
set_option maxHeartbeats 8000000 in
theorem setsP_any (T : Nat) (hT : T ≤ 5) (need : Int) (C T' S : Option Addr) (cl c tl t n' s : Nat) (w : World) :
    Calls Tryz.prog 39 #[.agg #[.int .i64 (T : Int), .slice C cl c, .slice T' tl t, .int .i64 need, .slice S n' s]] w (SetsS w T) := by
  obtain ⟨i4, hi4, hq0, hq1, hq2⟩ := info_parts intInfo
  obtain ⟨j4, hj4, hp0, hp1, hp2⟩ := info_parts stInfo
  have k1 := Blk.new w #[.int .i64 (T : Int), .slice C cl c, .slice T' tl t, .int .i64 need, .slice S n' s] 66
  have b1 := (Below.refl w.heap.size w).alloc (Nat.le_refl _) (.cells #[.int .i64 (T : Int), .slice C cl c, .slice T' tl t, .int .i64 need, .slice S n' s] 66)
  have k1c := k1.cell
  have g1 := k1.lt
  have hshl := shl_pow T hT
  obtain ⟨hN1, hN2⟩ := pow_le T hT
  have HAll : Hid (allSets T = (List.range (2 ^ T)).map fun b => setB b T) := Lib.hid rfl
  have HT5 := Lib.hid hT
  go_enter Tryz.func39, Tryz.ntmps39
  go_wp2_with fail
  generalize hW1 : w.alloc (.cells #[.int .i64 (T : Int), .slice C cl c, .slice T' tl t, .int .i64 need, .slice S n' s] 66) = W1 at *
  clear hW1
  generalize wrap64 ((2 : Int) ^ T) = z at *
  generalize hNN : 2 ^ T = N at *
  subst hshl
  clear k1c
  go_loopw [3, 11] (fun oo ii wr => ∃ (b : Nat) (A2 : Option Addr) (c2 : Nat), b ≤ N ∧ ii = .int .i64 b ∧ oo = .slice A2 b c2 ∧ Hid (SetsU wr W1.heap.size T A2 c2 b ∧ Below W1.heap.size W1 wr)) (fun _ ii _ => N - (vInt ii).toNat)
  case atStart => exact ⟨0, none, 0, Nat.zero_le _, rfl, rfl, Lib.hid ⟨⟨[], ⟨rfl, World.ownsRow_nil _ _ _ _, fun y hy => by cases hy⟩, rfl⟩, Below.refl _ _⟩⟩
  case round =>
    obtain ⟨b, A2, c2, hb0, rfl, rfl, hR⟩ := hrel
    obtain ⟨⟨ls, hI, hls⟩, hB⟩ := hR.out
    by_cases hlt : b < N
    · have hil : (b : Int) < (N : Int) := by omega
      have kr := k1.below hB g1
      have krc := kr.cell
      have HB := Lib.hid hB
      have HI := Lib.hid hI
      have HLS := Lib.hid hls
      have hlo := hB.size
      clear hR hI hls hB
      go_wp2_with fail
      generalize wr = wa at *
      go_loopw [5, 17] (fun ss ii wr => ∃ (k : Nat) (A3 : Option Addr) (c3 : Nat), k ≤ T ∧ ii = .int .i64 k ∧ ss = .slice A3 (setB b k).length c3 ∧ Hid (wr.ownsRow wa.heap.size 3 1 (.slice A3 (setB b k).length c3) (setB b k).length ((setB b k).flatMap intC) ∧ Below wa.heap.size wa wr)) (fun _ ii _ => T - (vInt ii).toNat)
      case atStart => exact ⟨0, none, 0, Nat.zero_le _, rfl, rfl, Lib.hid ⟨World.ownsRow_nil _ _ _ _, Below.refl _ _⟩⟩
      case round =>
        obtain ⟨k, A3, c3, hk0, rfl, rfl, hR3⟩ := hrel
        obtain ⟨hO, hB3⟩ := hR3.out
        by_cases hkt : k < T
        · have hkl : (k : Int) < (T : Int) := by omega
          have hk1 := Lib.hid (show k + 1 ≤ T by omega)
          have HT := Lib.hid (setB_succ b k)
          have hlen := setB_len b k
          have hbit := bit_and (b := b) (k := k) (by omega) (by omega)
          have kk := krc
          have krw := kr.below hB3 kr.lt
          have krwc := krw.cell
          have hbs := hB3.size
          cases hq : bitN b k with
          | true =>
            rw [hq] at hbit HT
            have hoA := hO.alloc (.cells #[.int .i64 (k : Int)] 3)
            clear hq hR3 kk krw
            generalize setB b k = L at *
            go_wp2_with (at_builtin; refine wpList_append_own_at _ rfl _ _ 26 rfl wa.heap.size 3 i4 _ 1 8 Tryz.underlying26 hi4 hq0 hq1 hq2 rfl (by decide) _ _ _ rfl hoA ⟨wr.heap.size, 0, none⟩ 1 1 (intC (k : Int)) rfl rfl (one_new wr k 3) (intC_one _) (by unfold maxLen; omega) (by omega) (by simp; omega) ?_; intro v' w6 hown6 hg6 _ _; obtain ⟨A4, c4, rfl⟩ := own_slice hown6)
            go_roundw
            case rel =>
              refine ⟨k + 1, A4, c4, hk1.out, by go_num, ?_, Lib.hid ⟨?_, ?_⟩⟩
              · rw [HT.out]; simp
              · rw [HT.out]; simpa using hown6
              · exact (hB3.alloc hbs _).grown hg6 (by simp; omega) (fun k e => (hoA.lt k e).1)
            case measure => have h9 := hk1.out; simp [vInt]; omega
          | false =>
            rw [hq] at hbit HT
            clear hq hR3 kk krw
            go_wp2_with fail
            go_roundw
            case rel =>
              refine ⟨k + 1, A3, c3, hk1.out, by go_num, ?_, Lib.hid ⟨?_, hB3⟩⟩
              · rw [HT.out]; simp
              · rw [HT.out]; simpa using hO
            case measure => have h9 := hk1.out; simp [vInt]; omega
        · have hkl : ¬ (k : Int) < (T : Int) := by omega
          obtain rfl : k = T := by omega
          have hbs := hB3.size
          have HL := Lib.hid (setB_len b k)
          have HI1 := HI.out.below (hB3.trans (Below.refl _ _))
          have HI2 := HI1.below ((Below.refl wr.heap.size wr).alloc (Nat.le_refl _) (.cells #[.slice A3 (setB b k).length c3] 26))
          have hfx : FlatX 1 intC (wr.alloc (.cells #[.slice A3 (setB b k).length c3] 26)) W1.heap.size (Value.slice A2 b c2).ownBlock A3 (setB b k) := (FlatX.of_own intC_len (by decide) hO (by omega) (fun g e => (HI.out.lt g e).2)).below ((Below.refl wr.heap.size wr).alloc (Nat.le_refl _) _)
          have HF := Lib.hid hfx
          have HII := Lib.hid HI2
          have hoA := HI2.2.1
          have HB3 := Lib.hid hB3
          have HLT := Lib.hid HI2.lt
          clear hR3 hO HI1 HI2 hfx hB3
          have HLN : Hid (ls.map StD.l ++ [setB b k] = (List.range (b + 1)).map fun b => setB b k) := Lib.hid (by rw [List.range_succ, List.map_append, HLS.out]; rfl)
          generalize setB b k = L at *
          go_wp2_with (at_builtin; refine wpList_append_own_at _ rfl _ _ 95 rfl W1.heap.size 26 j4 _ 1 24 Tryz.underlying95 hj4 hp0 hp1 hp2 rfl (by decide) _ _ _ rfl hoA ⟨wr.heap.size, 0, none⟩ 1 1 [.slice A3 L.length c3] rfl rfl (st_new wr _ 26) st_ones (by unfold maxLen; omega) (by omega) (by simp; omega) ?_; intro v' w6 hown6 hg6 _ ho6; obtain ⟨A4, c4, rfl⟩ := own_slice hown6)
          go_roundw
          case rel =>
            refine ⟨b + 1, A4, c4, by omega, by go_num, rfl, Lib.hid ⟨⟨ls ++ [⟨L, A3, c3⟩], StInv.push (z := ⟨L, A3, c3⟩) HII.out HF.out hown6 hg6 ho6, ?_⟩, ?_⟩⟩
            · rw [List.map_append]; exact HLN.out
            · exact ((HB.out.trans (HB3.out.mono HB.out.size)).alloc (by omega) _).grown hg6 (by simp; omega) (fun k e => (HLT.out k e).1)
          case measure => simp [vInt]; omega
    · have hil : ¬ (b : Int) < (N : Int) := by omega
      obtain rfl : b = N := by omega
      have HLS := Lib.hid hls
      have hB1 := b1.trans (hB.mono b1.size)
      have HB1 := Lib.hid hB1
      obtain ⟨g, cap, hv, hgl, hgt⟩ := hI.2.1.form (by omega)
      simp only [Value.slice.injEq, true_and] at hv
      obtain ⟨rfl, rfl⟩ := hv
      have hle : ∀ y ∈ ls, y.l.length ≤ 1000 := fun y hy => by
        have : y.l ∈ ls.map StD.l := List.mem_map_of_mem hy
        rw [hls] at this
        obtain ⟨k, _, e⟩ := List.mem_map.1 this
        have := setB_len k T
        rw [e] at this
        omega
      obtain ⟨xs, hxs⟩ := attachX ls (hI.ok hle (by simp [Value.ownBlock]))
      have hxl : b = xs.length := by rw [← hI.1, ← hxs, List.length_map]
      have hown := hI.2.1
      rw [← hxs] at hown
      have HS := Lib.hid (sortSets_some g b c2 xs hxl hgt (holdsX hown) (by omega))
      have HXL := Lib.hid hxl
      have hs1 := hB1.size
      have hs2 := b1.size
      clear hR hI hls hB hown hgt hle hxl
      go_wp2_with (go_at_call 49; (with_reducible refine (HS.out).mono ?_); rintro e w2 ⟨rfl, ⟨ls', hp, hpw, hfin⟩, hg2⟩; have HP := Lib.hid hp; have HPW := Lib.hid hpw; clear hp hpw)
      go_ret
      have hm : (ls'.map StD.l).Perm (allSets T) := by
        have := (hxs ▸ HP.out).map StD.l
        rw [HLS.out, ← HAll.out] at this
        exact this
      refine ⟨some ⟨g, 0, none⟩, c2, b, ls', rfl, ?_, hfin, setsS_unique hm ?_, HB1.out.grown hg2 hs1 (fun k e => by cases e; omega)⟩
      · rw [HP.out.length_eq, List.length_map, HXL.out]
      · rw [List.pairwise_map]; exact HPW.out.imp (fun h => by omega)
end Go.Proofs.YtpahcbhikmfamaaGreat
