/- Fractions less others, by the program. Written by v5.py. -/
import Derived.Test.YtbkekdbabkncfaaGreatW1
import Derived.Deep.RegionLawGrows

namespace Go.Proofs.YtbkekdbabkncfaaGreat
open Go.RowKit Go.Maps

theorem less_len {l o : List Frc} {x : Frc} (h : l.length ≤ o.length) : (lessL l x o).length = l.length := by unfold lessL; rw [List.length_zipWith]; omega
theorem less_parts {l o : List Frc} {x : Frc} (h : lessB l x o = true) : (∀ y ∈ l, bdF y = true) ∧ bdF x = true ∧ (∀ y ∈ o, bdF y = true) ∧ (∀ y ∈ o, bdF (mulF x y) = true) ∧ l.length ≤ o.length := by
  unfold lessB at h
  simp only [Bool.and_eq_true, List.all_eq_true, decide_eq_true_eq] at h
  exact ⟨h.1.1.1.1, h.1.1.1.2, h.1.1.2, h.1.2, h.2⟩
set_option maxRecDepth 100000 in
set_option maxHeartbeats 8000000 in
theorem less_any (l o : List Frc) (A O : Option Addr) (c oc : Nat) (x : Frc) (w : World) (h : FrcAt w w.heap.size A l) (h2 : FrcAt w w.heap.size O o) (hl : o.length ≤ 1000) (hb : lessB l x o = true) :
    Calls Tryz.prog 124 #[.slice A l.length c, .agg #[.int .i64 x.n, .int .i64 x.d], .slice O o.length oc] w (FrcPost w (lessL l x o)) := by
  obtain ⟨i4, hi4, hq0, hq1, hq2⟩ := info_parts frcInfo
  have hbb := less_parts hb
  have hlo := hbb.2.2.2.2
  have b1 := (Below.refl w.heap.size w).alloc (Nat.le_refl _) (.cells #[.int .i64 x.n, .int .i64 x.d] 129)
  have k1 := Blk.new w #[.int .i64 x.n, .int .i64 x.d] 129
  have HTm := Lib.hid (fun y (hy : y ∈ o) W => timesF_any x y hbb.2.1 (hbb.2.2.1 y hy) W)
  have HMn := Lib.hid (fun z (hz : z ∈ l) y (hy : y ∈ o) W => minusF_any z (mulF x y) (hbb.1 z hz) (hbb.2.2.2.1 y hy) W)
  have HLen : Hid ((lessL l x o).length = l.length) := Lib.hid (less_len hlo)
  have HH := Lib.hid (h.later b1)
  have HO2 := Lib.hid (h2.later b1)
  have HB1 := Lib.hid b1
  clear hb hbb h h2 b1
  go_enter Tryz.func124, Tryz.ntmps124
  go_wp2_with fail
  generalize hW1 : w.alloc (.cells #[.int .i64 x.n, .int .i64 x.d] 129) = W1 at *
  clear hW1
  have g1 := k1.lt
  have HI0 : Hid (W1.ownsRow W1.heap.size 129 2 (.slice none 0 0) 0 (((lessL l x o).take 0).flatMap frcC) ∧ Below W1.heap.size W1 W1) := Lib.hid ⟨World.ownsRow_nil _ _ _ _, Below.refl _ _⟩
  go_loopw [7, 12] (fun oo ii wr => ∃ (i : Nat) (A2 : Option Addr) (c2 : Nat), i ≤ l.length ∧ oo = .slice A2 i c2 ∧ ii = .int .i64 i ∧ Hid (wr.ownsRow W1.heap.size 129 2 (.slice A2 i c2) i (((lessL l x o).take i).flatMap frcC) ∧ Below W1.heap.size W1 wr)) (fun _ ii _ => l.length - (vInt ii).toNat)
  case atStart => exact ⟨0, none, 0, Nat.zero_le _, rfl, rfl, HI0⟩
  case round =>
    obtain ⟨i, A2, c2, hi, rfl, rfl, hR⟩ := hrel
    clear HI0
    obtain ⟨ho, hB⟩ := hR.out
    have HO := Lib.hid ho
    clear hR ho
    by_cases hlt : i < l.length
    · have hil : (i : Int) < (l.length : Int) := by omega
      have hlto : i < o.length := by omega
      have hilo : (i : Int) < (o.length : Int) := by omega
      obtain ⟨b, off, rfl, hbb, c0, c1⟩ := frc_at (HH.out.later hB) hlt
      obtain ⟨b2, off2, rfl, hbb2, d0, d1⟩ := frc_at (HO2.out.later hB) hlto
      have HTi := Lib.hid (HTm.out o[i] (List.getElem_mem hlto))
      have HMi := Lib.hid (HMn.out l[i] (List.getElem_mem hlt) o[i] (List.getElem_mem hlto))
      have HT : Hid (((lessL l x o).take (i + 1)).flatMap frcC = ((lessL l x o).take i).flatMap frcC ++ frcC ⟨(subF l[i] (mulF x o[i])).n, (subF l[i] (mulF x o[i])).d⟩) := Lib.hid (by
        rw [List.take_succ_eq_append_getElem (by rw [HLen.out]; exact hlt), List.flatMap_append]
        congr 1
        simp [lessL])
      generalize subF l[i] (mulF x o[i]) = r at *
      generalize mulF x o[i] = p at *
      generalize l[i] = y at *
      generalize o[i] = z at *
      obtain ⟨rn, rd⟩ := r
      dsimp only at *
      have ba := (Below.refl wr.heap.size wr).alloc (Nat.le_refl _) (.cells #[.int .i64 y.n, .int .i64 y.d] 129)
      have kr := (k1.below hB g1).alloc (.cells #[.int .i64 y.n, .int .i64 y.d] 129)
      have ky := Blk.new wr #[.int .i64 y.n, .int .i64 y.d] 129
      have hBa := hB.trans (ba.mono hB.size)
      have HOa := Lib.hid (own_below HO.out ba)
      have e0 := (ba.cell (p := ⟨b2, off2 + i * 2, none⟩) hbb2).trans d0
      have e1 := (ba.cell (p := ⟨b2, off2 + i * 2 + 1, none⟩) hbb2).trans d1
      clear d0 d1
      go_upto_region 5 with fail
      generalize hW4 : wr.alloc (.cells #[.int .i64 y.n, .int .i64 y.d] 129) = W4 at *
      have gy := ky.lt
      have gr := kr.lt
      clear hW4 c0 c1 ba hB
      have krc := kr.cell
      have kyc := ky.cell
      have D0 : Below W4.heap.size W4 W4.drew := (Below.refl _ _).drew
      have hBs := hBa.size
      go_region_law (first
        | (go_simp; go_at_call 143; (with_reducible refine (HTi.out _).mono ?_); rintro e w2 ⟨rfl, h2⟩; have d2 := D0.trans h2; have y2c := (ky.below d2 gy).cell; have r2c := (kr.below d2 gr).cell; have z2 := d2.size)
        | (go_simp; go_at_call 110; (with_reducible refine (HMi.out _).mono ?_); rintro e w3 ⟨rfl, h3⟩; have d3 := d2.trans (h3.mono d2.size); have z3 := d3.size; have HO3 := Lib.hid ((own_below HOa.out d3).alloc (.cells #[.int .i64 rn, .int .i64 rd] 129)); have HNw := Lib.hid (frc_new w3 rn rd 129))
        | (refine step_append_opt (by rfl) _ _ _ (by rfl) W1.heap.size 129 i4 _ 2 16 Tryz.underlying112 hi4 hq0 hq1 hq2 rfl (by decide) _ _ _ (by rfl) HO3.out (some ⟨w3.heap.size, 0, none⟩) 1 1 (frcC ⟨rn, rd⟩) (by rfl) (fun e => by cases e) (by rfl) (fun ad e => by cases e; exact HNw.out) (frcC_one _) (by unfold maxLen; omega) (by omega) (by simp; omega) ?_; intro v' w5 hown5 hg5 ho5; obtain ⟨A3, c3, rfl⟩ := own_slice hown5))
      all_goals have hB5 := (((hBa.trans (d3.mono hBa.size)).alloc (Nat.le_trans hBa.size d3.size) (.cells #[.int .i64 rn, .int .i64 rd] 129)).grown hg5 (by simp; omega) (fun k e => (HO3.out.lt k e).1))
      all_goals have HF : Hid (w5.ownsRow W1.heap.size 129 2 (.slice A3 (i + 1) c3) (i + 1) (((lessL l x o).take (i + 1)).flatMap frcC) ∧ Below W1.heap.size W1 w5) := Lib.hid ⟨by rw [HT.out]; exact hown5, hB5⟩
      all_goals clear hB5 hown5 hg5 ho5
      all_goals go_wp2_with fail
      all_goals go_roundw
      all_goals first
        | (simp [vInt]; omega; done)
        | exact ⟨i + 1, A3, c3, by omega, rfl, by go_num, Lib.hid ⟨own_below HF.out.1 (Below.refl _ _).drew, HF.out.2.drew⟩⟩
        | exact ⟨i + 1, A3, c3, by omega, rfl, by go_num, HF⟩
    · have hil : ¬ (i : Int) < (l.length : Int) := by omega
      obtain rfl : i = l.length := by omega
      have HE : Hid (FlatP 2 frcC wr (fun b => w.heap.size ≤ b) A2 (lessL l x o)) := Lib.hid ((FlatP.of_own (c := c2) frcC_len (by decide) (by rw [HLen.out]; have := HO.out; rwa [List.take_of_length_le (by rw [HLen.out]; exact Nat.le_refl _)] at this) (fun b h1 _ _ => h1)).imp (fun b _ h => Nat.le_trans HB1.out.size h))
      clear HO
      go_wp2_with fail
      go_ret
      exact ⟨A2, c2, by rw [HLen.out]; rfl, HE.out, HB1.out.trans (hB.mono HB1.out.size)⟩
end Go.Proofs.YtbkekdbabkncfaaGreat
