/- Whether questions make an audit, by the program. Written by v17.py. -/
import Derived.Test.YtbkekdbabkncfaaGreatVP16
import Derived.Test.YtbkekdbabkncfaaGreatUPrg2
import Derived.Test.YtbkekdbabkncfaaGreatURef6
import Derived.Deep.RegionHeld3
import Derived.ChangeKeysEq
import Derived.Laws.StructEq

namespace Go.Proofs.YtbkekdbabkncfaaGreat
open Go.RowKit Go.Maps

theorem eq_pair (a b c d : Int) (w : World) : (Op.equalIn 10000 150 (.agg #[.int .i64 a, .int .i64 b]) (.agg #[.int .i64 c, .int .i64 d])).run Tryz.prog w = .ok (a == c && b == d) w := by
  have hu : Tryz.prog.underlying 150 = some (.array 2 3) := Tryz.underlying150
  have hc : Tryz.prog.cellsOf 3 = 1 := by kernel_rfl
  obtain ⟨i, hi, _⟩ := info_parts intInfo
  have hn : Tryz.prog.underlying 3 = some (.int .i64) := Tryz.underlying3
  rw [run_equalIn_array (w := w) 9999 _ _ hu hi, hc]
  simp only [show List.range 2 = [0, 1] from rfl, Op.eqItems, Sem.run_bind]
  simp [part, go_sem, hn]
  by_cases h1 : a = c <;> by_cases h2 : b = d <;> simp [h1, h2]
theorem neq_guard (x y : Operand) (xs ys : Array Value) (w : World) : (eqGuard .neq 150 x y (.agg xs) (.agg ys)).run Tryz.prog w = .ok () w := run_eqGuard_agg (w := w) _ _ _ _ _ _ (by kernel_rfl)
attribute [local go_sem] eq_pair neq_guard
def q0L : List QueD → Que
  | [] => ⟨[], 0, 0, 0⟩
  | x :: _ => x.v
def fitB (columns : Int) (q0 q : Que) : Bool := queB columns q && decide (q.col = q0.col ∧ q.clip = q0.clip)
def avalB (columns : Int) (l : List Que) : Bool := decide (l.length ≤ 8) && l.all fun q => match l with
  | [] => true
  | q0 :: _ => fitB columns q0 q

set_option maxRecDepth 100000 in
set_option maxHeartbeats 8000000 in
theorem unfit1_any (columns : Int) (q : QueD) (l : List QueD) (A : Option Addr) (c pc pl : Nat) (w : World) (hpc : w.cell? ⟨pc, 0, none⟩ = some (.int .i64 columns)) (hpcl : pc < w.heap.size) (hpl : w.cell? ⟨pl, 0, none⟩ = some (.slice A l.length c)) (hpll : pl < w.heap.size) (hcb : -1000 ≤ columns ∧ columns ≤ 1000) (hl : QuesAt w w.heap.size A l) (hn : 0 < l.length) (hq : WhesAt w w.heap.size q.W q.v.wheres) (hql : q.v.wheres.length ≤ maxLen) :
    Calls Tryz.prog 98 #[.agg #[.slice q.W q.v.wheres.length q.c, .int .i64 q.v.col, .int .i64 q.v.clip, .int .i64 q.v.step], .pointer (some ⟨pc, 0, none⟩), .pointer (some ⟨pl, 0, none⟩)] w fun e w' => e = .returned (.bool (!(fitB columns l[0].v q.v))) ∧ Below w.heap.size w w' := by
  have b1 := (Below.refl w.heap.size w).alloc (Nat.le_refl _) (.cells #[.slice q.W q.v.wheres.length q.c, .int .i64 q.v.col, .int .i64 q.v.clip, .int .i64 q.v.step] 25)
  have k1 := Blk.new w #[.slice q.W q.v.wheres.length q.c, .int .i64 q.v.col, .int .i64 q.v.clip, .int .i64 q.v.step] 25
  have HQV := Lib.hid (fun W (hb : Below w.heap.size w W) => questionU_any columns q.v.wheres q.v.col q.v.clip q.v.step q.W q.c W (hq.later hb) hql hcb)
  have HK1 := Lib.hid (fun W => kind_any q.W q.v.wheres.length q.c q.v.col q.v.clip q.v.step W)
  obtain ⟨b, off, hA, hbb, c0, c1, c2, c3, _⟩ := ques_at hl hn
  simp only [Nat.zero_mul, Nat.add_zero] at c0 c1 c2 c3
  have HK0 := Lib.hid (fun W => kind_any l[0].W l[0].v.wheres.length l[0].c l[0].v.col l[0].v.clip l[0].v.step W)
  have hq0 : queB columns ⟨q.v.wheres, q.v.col, q.v.clip, q.v.step⟩ = queB columns q.v := rfl
  rw [hq0] at HQV
  unfold fitB
  have k1c := k1.cell
  have hnI : (0 : Int) < (l.length : Int) := by omega
  clear hq hl hq0
  generalize hz : l[0] = z at *
  clear hz
  subst hA
  generalize hw1 : w.alloc (.cells #[.slice q.W q.v.wheres.length q.c, .int .i64 q.v.col, .int .i64 q.v.clip, .int .i64 q.v.step] 25) = w1 at *
  cases hv : queB columns q.v with
  | false =>
    rw [hv] at HQV
    go_enter Tryz.func98, Tryz.ntmps98
    go_upto_region 1 with fail
    have g1 := k1.lt
    have D0 : Below w1.heap.size w1 w1.drew := (Below.refl _ _).drew
    have SK : ∀ W', Below w1.heap.size w1 W' → Below w.heap.size w (W') ∧ (∀ i, (W').cell? ⟨w.heap.size, i, none⟩ = (#[.slice q.W q.v.wheres.length q.c, .int .i64 q.v.col, .int .i64 q.v.clip, .int .i64 q.v.step] : Array Value)[i]?) ∧ (W').cell? ⟨pc, 0, none⟩ = some (.int .i64 columns) ∧ (W').cell? ⟨pl, 0, none⟩ = some (.slice (some ⟨b, off, none⟩) l.length c) ∧ (W').cell? ⟨b, off, none⟩ = some (.slice z.W z.v.wheres.length z.c) ∧ (W').cell? ⟨b, off + 1, none⟩ = some (.int .i64 z.v.col) ∧ (W').cell? ⟨b, off + 2, none⟩ = some (.int .i64 z.v.clip) ∧ (W').cell? ⟨b, off + 3, none⟩ = some (.int .i64 z.v.step) := fun W' hW => by
      have hh := b1.trans (hW.mono b1.size)
      exact ⟨hh, (k1.below hW g1).cell, (hh.cell (p := ⟨pc, 0, none⟩) hpcl).trans hpc, (hh.cell (p := ⟨pl, 0, none⟩) hpll).trans hpl, (hh.cell (p := ⟨b, off, none⟩) hbb).trans c0, (hh.cell (p := ⟨b, off + 1, none⟩) hbb).trans c1, (hh.cell (p := ⟨b, off + 2, none⟩) hbb).trans c2, (hh.cell (p := ⟨b, off + 3, none⟩) hbb).trans c3⟩
    obtain ⟨s1, s2, s3, s4, s5, s6, s7, s8⟩ := SK _ D0
    go_region_law (first
      | (go_simp; go_at_call 62; (with_reducible refine (HQV.out _ s1).mono ?_); rintro e w2 ⟨rfl, h2⟩; have d2 := D0.trans h2))
    all_goals have e2 := b1.trans (d2.mono b1.size)
    all_goals go_wp2_with fail
    all_goals go_ret
    all_goals first
      | exact ⟨ret_bool (by simp), e2⟩
      | exact ⟨ret_bool (by simp), e2.drew⟩
  | true =>
    rw [hv] at HQV
    go_enter Tryz.func98, Tryz.ntmps98
    go_upto_region 1 with fail
    have g1 := k1.lt
    have D0 : Below w1.heap.size w1 w1.drew := (Below.refl _ _).drew
    have SK : ∀ W', Below w1.heap.size w1 W' → Below w.heap.size w (W') ∧ (∀ i, (W').cell? ⟨w.heap.size, i, none⟩ = (#[.slice q.W q.v.wheres.length q.c, .int .i64 q.v.col, .int .i64 q.v.clip, .int .i64 q.v.step] : Array Value)[i]?) ∧ (W').cell? ⟨pc, 0, none⟩ = some (.int .i64 columns) ∧ (W').cell? ⟨pl, 0, none⟩ = some (.slice (some ⟨b, off, none⟩) l.length c) ∧ (W').cell? ⟨b, off, none⟩ = some (.slice z.W z.v.wheres.length z.c) ∧ (W').cell? ⟨b, off + 1, none⟩ = some (.int .i64 z.v.col) ∧ (W').cell? ⟨b, off + 2, none⟩ = some (.int .i64 z.v.clip) ∧ (W').cell? ⟨b, off + 3, none⟩ = some (.int .i64 z.v.step) := fun W' hW => by
      have hh := b1.trans (hW.mono b1.size)
      exact ⟨hh, (k1.below hW g1).cell, (hh.cell (p := ⟨pc, 0, none⟩) hpcl).trans hpc, (hh.cell (p := ⟨pl, 0, none⟩) hpll).trans hpl, (hh.cell (p := ⟨b, off, none⟩) hbb).trans c0, (hh.cell (p := ⟨b, off + 1, none⟩) hbb).trans c1, (hh.cell (p := ⟨b, off + 2, none⟩) hbb).trans c2, (hh.cell (p := ⟨b, off + 3, none⟩) hbb).trans c3⟩
    go_region_held3 (fun W' => Below w.heap.size w (W') ∧ (∀ i, (W').cell? ⟨w.heap.size, i, none⟩ = (#[.slice q.W q.v.wheres.length q.c, .int .i64 q.v.col, .int .i64 q.v.clip, .int .i64 q.v.step] : Array Value)[i]?) ∧ (W').cell? ⟨pc, 0, none⟩ = some (.int .i64 columns) ∧ (W').cell? ⟨pl, 0, none⟩ = some (.slice (some ⟨b, off, none⟩) l.length c) ∧ (W').cell? ⟨b, off, none⟩ = some (.slice z.W z.v.wheres.length z.c) ∧ (W').cell? ⟨b, off + 1, none⟩ = some (.int .i64 z.v.col) ∧ (W').cell? ⟨b, off + 2, none⟩ = some (.int .i64 z.v.clip) ∧ (W').cell? ⟨b, off + 3, none⟩ = some (.int .i64 z.v.step)) (first | with_reducible exact SK _ D0 | with_reducible exact SK _ d4 | with_reducible exact SK _ d3 | with_reducible exact SK _ d2)
      (first
        | (go_at_call 62; (with_reducible refine (HQV.out _ ?_).mono ?_); exact heldB (by with_reducible assumption); rintro e w2 ⟨rfl, h2⟩; have d2 := D0.trans h2)
        | (go_at_call 99; (with_reducible refine (HK1.out _).mono ?_); rintro e w3 ⟨rfl, h3⟩; have d3 := d2.trans (h3.mono d2.size))
        | (go_at_call 99; (with_reducible refine (HK0.out _).mono ?_); rintro e w4 ⟨rfl, h4⟩; have d4 := d3.trans (h4.mono d3.size)))
    have e4 := b1.trans (d4.mono b1.size)
    go_wp2_with fail
    go_ret
    exact ⟨ret_bool (by by_cases h1 : q.v.col = z.v.col <;> by_cases h2 : q.v.clip = z.v.clip <;> simp [h1, h2]), e4⟩

set_option maxRecDepth 100000 in
set_option maxHeartbeats 4000000 in
theorem indexUnfit_any (columns : Int) (l : List QueD) (A : Option Addr) (c pc pl : Nat) (w : World) (hpc : w.cell? ⟨pc, 0, none⟩ = some (.int .i64 columns)) (hpcl : pc < w.heap.size) (hpl : w.cell? ⟨pl, 0, none⟩ = some (.slice A l.length c)) (hpll : pl < w.heap.size) (hcb : -1000 ≤ columns ∧ columns ≤ 1000) (h : QuesAt w w.heap.size A l) (hl : l.length ≤ 1000) (hql : ∀ x ∈ l, x.v.wheres.length ≤ maxLen) :
    Calls Tryz.prog 123 #[.slice A l.length c, .func (.func 98) #[] #[.pointer (some ⟨pc, 0, none⟩), .pointer (some ⟨pl, 0, none⟩)]] w (IdxPost (!(l.all (fun x : QueD => fitB columns (q0L l) x.v))) w) := by
  have HH := Lib.hid h
  have HU := Lib.hid (fun (hn : 0 < l.length) i (hi : i < l.length) W (hb : Below w.heap.size w W) => unfit1_any columns l[i] l A c pc pl W ((hb.cell (p := ⟨pc, 0, none⟩) hpcl).trans hpc) (Nat.lt_of_lt_of_le hpcl hb.size) ((hb.cell (p := ⟨pl, 0, none⟩) hpll).trans hpl) (Nat.lt_of_lt_of_le hpll hb.size) hcb (h.later hb) hn ((h.later hb).each _ (List.getElem_mem hi)) (hql _ (List.getElem_mem hi)))
  have HD : Hid (∀ (hn : 0 < l.length), l[0].v = q0L l) := Lib.hid (fun hn => by cases l with | nil => simp at hn | cons x r => rfl)
  clear h hpc hpl
  go_enter Tryz.func123, Tryz.ntmps123
  go_wp2_with fail
  go_loopw [8] (fun ii wr => ∃ i : Nat, i ≤ l.length ∧ ii = .int .i64 i ∧ Hid ((∀ j, (hj : j < l.length) → j < i → (fun x : QueD => fitB columns (q0L l) x.v) l[j] = true) ∧ Below w.heap.size w wr)) (fun ii _ => l.length - (vInt ii).toNat)
  case atStart => exact ⟨0, Nat.zero_le _, rfl, Lib.hid ⟨fun j hj hj2 => by omega, Below.refl _ _⟩⟩
  case round =>
    obtain ⟨i, hi, rfl, hR⟩ := hrel
    by_cases hlt : i < l.length
    · have hil : (i : Int) < (l.length : Int) := by omega
      obtain ⟨hall, hB⟩ := hR.out
      obtain ⟨b, off, hA, hb, c0, c1, c2, c3, _⟩ := ques_at (HH.out.later hB) hlt
      have HC := Lib.hid (HU.out (by omega) i hlt wr hB)
      have h0 := HD.out (by omega)
      rw [h0] at HC
      have HN : Hid (fitB columns (q0L l) l[i].v = true → ∀ j, (hj : j < l.length) → j < i + 1 → (fun x : QueD => fitB columns (q0L l) x.v) l[j] = true) := Lib.hid (fun e j hj hj2 => by
        by_cases hji : j = i
        · subst hji; exact e
        · exact hall j hj (by omega))
      have HF : Hid (fitB columns (q0L l) l[i].v = false → l.all (fun x : QueD => fitB columns (q0L l) x.v) = false) := Lib.hid (fun e => by
        rw [List.all_eq_false]; exact ⟨l[i], List.getElem_mem hlt, by rw [e]; decide⟩)
      clear hall hR h0
      generalize hp0 : fitB columns (q0L l) l[i].v = p0 at HC HN HF
      clear hp0
      subst hA
      generalize l[i] = y at *
      cases p : p0 with
      | true =>
        rw [p] at HC
        have HR := Lib.hid (HN.out p)
        clear HN HF p
        go_wp2_with (go_at_call 98; (with_reducible refine (HC.out).mono ?_); rintro e w2 ⟨rfl, h2⟩)
        go_roundw
        case rel => exact ⟨i + 1, by omega, by go_num, Lib.hid ⟨HR.out, hB.trans (h2.mono hB.size)⟩⟩
        case measure => simp [vInt]; omega
      | false =>
        rw [p] at HC
        have HR := Lib.hid (HF.out p)
        clear HN HF p
        go_wp2_with (go_at_call 98; (with_reducible refine (HC.out).mono ?_); rintro e w2 ⟨rfl, h2⟩)
        go_ret
        exact ⟨_, rfl, by rw [HR.out]; simp, hB.trans (h2.mono hB.size)⟩
    · have hil : ¬ (i : Int) < (l.length : Int) := by omega
      have HR : Hid (l.all (fun x : QueD => fitB columns (q0L l) x.v) = true) := Lib.hid (by
        rw [List.all_eq_true]
        intro x hx
        obtain ⟨j, hj, rfl⟩ := List.getElem_of_mem hx
        exact hR.out.1 j hj (by omega))
      have hfin := hR.out.2
      clear hR
      go_wp2_with fail
      go_ret
      exact ⟨_, rfl, by rw [HR.out]; decide, hfin⟩
set_option maxHeartbeats 1000000 in
theorem containsUnfit_any (columns : Int) (l : List QueD) (A : Option Addr) (c pc pl : Nat) (w : World) (hpc : w.cell? ⟨pc, 0, none⟩ = some (.int .i64 columns)) (hpcl : pc < w.heap.size) (hpl : w.cell? ⟨pl, 0, none⟩ = some (.slice A l.length c)) (hpll : pl < w.heap.size) (hcb : -1000 ≤ columns ∧ columns ≤ 1000) (h : QuesAt w w.heap.size A l) (hl : l.length ≤ 1000) (hql : ∀ x ∈ l, x.v.wheres.length ≤ maxLen) :
    Calls Tryz.prog 100 #[.slice A l.length c, .func (.func 98) #[] #[.pointer (some ⟨pc, 0, none⟩), .pointer (some ⟨pl, 0, none⟩)]] w fun e w' => e = .returned (.bool (!(l.all (fun x : QueD => fitB columns (q0L l) x.v)))) ∧ Below w.heap.size w w' := by
  have HI := Lib.hid (indexUnfit_any columns l A c pc pl w hpc hpcl hpl hpll hcb h hl hql)
  generalize (!(l.all (fun x : QueD => fitB columns (q0L l) x.v))) = b at *
  clear h
  go_enter Tryz.func100, Tryz.ntmps100
  go_wp2_with (go_at_call 123; (with_reducible refine (HI.out).mono ?_); rintro e w1 ⟨n, rfl, hn, h1⟩; have Hn := Lib.hid hn; clear hn)
  go_ret
  exact ⟨ret_bool Hn.out, h1⟩
end Go.Proofs.YtbkekdbabkncfaaGreat
