/- The elimination, by the reference. Written by q5.py. -/
import Derived.Test.YtbkekdbabkncfaaGreatQB
import Derived.Deep.RegionHeld3

namespace Go.Proofs.YtbkekdbabkncfaaGreat
open Go.RowKit Go.Maps Det

set_option maxRecDepth 100000 in
set_option maxHeartbeats 16000000 in
set_option linter.unusedSimpArgs false in
theorem solve10_any (columns : Int) (l : List SubD) (L : Option Addr) (lc : Nat) (q : List QueD) (Q : Option Addr) (qc : Nat) (w : World) (h : Rdy w columns l L q Q) :
    Calls Tryz.prog 51 #[.slice L l.length lc, .slice Q q.length qc] w fun e w' => ∃ R c Rs, e = .returned (.slice R (List.length Rs) c) ∧ Hid (RowsOwn w.heap.size w' R c Rs) ∧ Rs.map RowD.v = refK l (q.map QueD.v) q.length ∧ Below w.heap.size w w' := by
  obtain ⟨i4, hi4, hq0, hq1, hq2⟩ := info_parts frac10Info
  obtain ⟨i5, hi5, hp0, hp1, hp2⟩ := info_parts row10Info
  have hl16 := h.l16
  have hq8 := h.q8
  have HH := Lib.hid h.sub
  have HQ := Lib.hid h.que
  have HAs := Lib.hid (fun (x : SubD) (hx : x ∈ l) (y : QueD) (hy : y ∈ q) => h.asked hx hy)
  have HK := Lib.hid (fun k (hk : k ≤ q.length) => refK_all (ol := l) (qs := q.map QueD.v) (by simpa using hq8) k (by simpa using hk))
  clear h
  go_enter Tryz.func51, Tryz.ntmps51
  go_wp2_with fail
  go_loopw [7, 8] (fun rr kk wr => ∃ (k : Nat) (R : Option Addr) (c : Nat) (Rs : List RowD), k ≤ q.length ∧ rr = .slice R Rs.length c ∧ kk = .int .i64 k ∧ Hid (RowsOwn w.heap.size wr R c Rs ∧ Rs.map RowD.v = refK l (q.map QueD.v) k ∧ Below w.heap.size w wr)) (fun _ kk _ => q.length - (vInt kk).toNat)
  case atStart => exact ⟨0, none, 0, [], Nat.zero_le _, rfl, rfl, Lib.hid ⟨RowsOwn.nil _ _, rfl, Below.refl _ _⟩⟩
  case round =>
    obtain ⟨k, R, c, Rs, hk, rfl, rfl, hR⟩ := hrel
    obtain ⟨hO, hV, hB⟩ := hR.out
    clear hR
    by_cases hlt : k < q.length
    · have hkl : (k : Int) < (q.length : Int) := by omega
      obtain ⟨bq, oq, hQA, hbq, d0, d1, d2, d3, _⟩ := ques_at HQ.out hlt
      subst hQA
      have hyq := List.getElem_mem hlt
      have HKl : Hid (k < q.length) := Lib.hid hlt
      have hgk : (q.map QueD.v).getD k ⟨[], 0, 0, 0⟩ = q[k].v := (getD_lt _ _ (by simpa using hlt)).trans (List.getElem_map ..)
      have hrow := eqn_row l q.length k q[k].v
      have HAy := Lib.hid (fun (x : SubD) (hx : x ∈ l) => HAs.out x hx q[k] hyq)
      have hKk := HK.out k hk
      have hKs : refK l (q.map QueD.v) (k + 1) = refS (refK l (q.map QueD.v) k) (eqnQ l q.length k q[k].v) := by show refS (refK l (q.map QueD.v) k) (eqnQ l (q.map QueD.v).length k ((q.map QueD.v).getD k ⟨[], 0, 0, 0⟩)) = _; rw [hgk, List.length_map]
      rw [hgk, List.length_map] at hKk
      have hKn : Rs.length ≤ k := by have h1 := hKk.2.1; rw [← hV, List.length_map] at h1; exact h1
      have HKk := Lib.hid hKk
      have HKs := Lib.hid hKs
      generalize hyy : q[k] = y at *
      clear hyy hgk hKk hKs
      have HX := Lib.hid hrow
      have hXl : (rowL (eqnQ l q.length k y.v)).length = l.length + q.length := by rw [hrow]; simp
      have HXa : Hid (∀ i, (hi : i < l.length) → (hx : i < (rowL (eqnQ l q.length k y.v)).length) → (rowL (eqnQ l q.length k y.v))[i] = bitF (askB l[i].v y.v)) := Lib.hid (fun i hi hx => by
        simp only [hrow]
        rw [List.getElem_append_left (by simpa using hi), List.getElem_map])
      have HXb : Hid (∀ i, (hi : i < q.length) → (hx : l.length + i < (rowL (eqnQ l q.length k y.v)).length) → (rowL (eqnQ l q.length k y.v))[l.length + i] = bitF (decide (i = k))) := Lib.hid (fun i hi hx => by
        simp only [hrow]
        rw [List.getElem_append_right (by simp)]
        simp)
      generalize hXX : rowL (eqnQ l q.length k y.v) = X at *
      have HXX := Lib.hid hXX
      have HO := Lib.hid hO
      have HV := Lib.hid hV
      have HB := Lib.hid hB
      clear hrow hXX hO hV
      have hr0 := Lib.hid (RSt.new wr)
      have hBs := hB.size
      clear hB
      go_wp2_with fail
      generalize hWA : wr.alloc (.cells #[.int .i64 (-1), .slice none 0 0] 98) = WA at *
      clear hWA
      generalize hW0 : wr = W0 at *
      clear hW0
      go_loopw [10] (fun ii wr => ∃ (i : Nat), i ≤ l.length ∧ ii = .int .i64 i ∧ Hid (∃ A2 c2, RSt W0 wr (-1) (X.take i) A2 c2)) (fun ii _ => l.length - (vInt ii).toNat)
      case atStart => exact ⟨0, Nat.zero_le _, rfl, Lib.hid ⟨none, 0, hr0.out⟩⟩
      case round =>
        obtain ⟨i, hi, rfl, hR⟩ := hrel
        obtain ⟨A2, c2, hS⟩ := hR.out
        clear hR
        have hB2 := HB.out.trans (hS.below.mono HB.out.size)
        by_cases hlt : i < l.length
        · have hil : (i : Int) < (l.length : Int) := by omega
          obtain ⟨b, off, rfl, hbl, c0, c1, _⟩ := subs_at HH.out hlt
          have HAx := Lib.hid (HAy.out l[i] (List.getElem_mem hlt))
          have hXi := HXa.out i hlt (by omega)
          have htk : X.take (i + 1) = X.take i ++ [bitF (askB l[i].v y.v)] := by rw [List.take_succ_eq_append_getElem (by omega), hXi]
          have hlen : (X.take i).length = i := by rw [List.length_take]; omega
          generalize l[i] = x at *
          generalize hcs : X.take i = cs at *
          have HT := Lib.hid htk
          clear htk hXi hcs
          have SK : ∀ W', Below w.heap.size w W' → W'.cell? ⟨b, off + i * 2, none⟩ = some (.int .i64 x.v.id) ∧ W'.cell? ⟨b, off + i * 2 + 1, none⟩ = some (.slice x.V x.v.vals.length x.c) ∧ W'.cell? ⟨bq, oq + k * 4, none⟩ = some (.slice y.W y.v.wheres.length y.c) ∧ W'.cell? ⟨bq, oq + k * 4 + 1, none⟩ = some (.int .i64 y.v.col) ∧ W'.cell? ⟨bq, oq + k * 4 + 2, none⟩ = some (.int .i64 y.v.clip) ∧ W'.cell? ⟨bq, oq + k * 4 + 3, none⟩ = some (.int .i64 y.v.step) := fun W' hb => ⟨(hb.cell (p := ⟨b, off + i * 2, none⟩) hbl).trans c0, (hb.cell (p := ⟨b, off + i * 2 + 1, none⟩) hbl).trans c1, (hb.cell (p := ⟨bq, oq + k * 4, none⟩) hbq).trans d0, (hb.cell (p := ⟨bq, oq + k * 4 + 1, none⟩) hbq).trans d1, (hb.cell (p := ⟨bq, oq + k * 4 + 2, none⟩) hbq).trans d2, (hb.cell (p := ⟨bq, oq + k * 4 + 3, none⟩) hbq).trans d3⟩
          have HD := Lib.hid (And.intro d0 (And.intro d1 (And.intro d2 d3)))
          have D0 : Below wr.heap.size wr wr.drew := (Below.refl _ _).drew
          have bD := hB2.trans (D0.mono hB2.size)
          have HS := Lib.hid hS
          have hBs2 := hB2.size
          clear hS c0 c1 d0 d1 d2 d3
          cases hask : askB x.v y.v with
          | false =>
            rw [hask] at HAx HT
            go_upto_region 10 with fail
            go_region_held3 (fun W' => W'.cell? ⟨b, off + i * 2, none⟩ = some (.int .i64 x.v.id) ∧ W'.cell? ⟨b, off + i * 2 + 1, none⟩ = some (.slice x.V x.v.vals.length x.c) ∧ W'.cell? ⟨bq, oq + k * 4, none⟩ = some (.slice y.W y.v.wheres.length y.c) ∧ W'.cell? ⟨bq, oq + k * 4 + 1, none⟩ = some (.int .i64 y.v.col) ∧ W'.cell? ⟨bq, oq + k * 4 + 2, none⟩ = some (.int .i64 y.v.clip) ∧ W'.cell? ⟨bq, oq + k * 4 + 3, none⟩ = some (.int .i64 y.v.step)) (first | with_reducible exact SK _ bD | with_reducible exact SK _ b2)
              (first
              | (go_at_call 32; (with_reducible refine (HAx.out _ bD).mono ?_); rintro e w2 ⟨rfl, h2⟩; have e2 := D0.trans h2; have b2 := bD.trans (h2.mono bD.size)))
            have HRw := Lib.hid (HS.out.later e2)
            clear SK b2
            have HOa := Lib.hid (HRw.out.own.alloc (.cells #[.int .i64 0, .int .i64 1] 101))
            rw [hlen] at HOa
            have HNw := Lib.hid (frc_new w2 0 1 101)
            have hzw := HRw.out.size
            have kqc := HRw.out.blk.cell
            go_wp2_with (at_builtin; refine wpList_append_own_at _ rfl _ _ 96 rfl (W0.heap.size + 1) 101 i4 _ 2 16 Tryz.underlying96 hi4 hq0 hq1 hq2 rfl (by decide) _ _ _ rfl HOa.out ⟨w2.heap.size, 0, none⟩ 1 1 (frcC ⟨0, 1⟩) rfl rfl HNw.out (frcC_one _) (by unfold maxLen; omega) (by omega) (by simp; omega) ?_; intro v' w4 hown4 hg4 _ hat4; obtain ⟨A3, c3, rfl⟩ := own_slice hown4; have q4 := HRw.out.grown (by rw [hlen]; exact hg4); have q4c := q4.cell; have q4f := q4.free; have HR4 := Lib.hid (HRw.out.snoc (A3 := A3) (c3 := c3) (by rw [hlen]; exact hg4) (by rw [hlen]; exact hown4)); rw [hlen] at HR4)
            go_roundw
            case rel => exact ⟨i + 1, by omega, by go_num, Lib.hid ⟨A3, c3, by rw [HT.out]; exact HR4.out⟩⟩
            case measure => simp [vInt]; omega
          | true =>
            rw [hask] at HAx HT
            go_upto_region 10 with fail
            go_region_held3 (fun W' => W'.cell? ⟨b, off + i * 2, none⟩ = some (.int .i64 x.v.id) ∧ W'.cell? ⟨b, off + i * 2 + 1, none⟩ = some (.slice x.V x.v.vals.length x.c) ∧ W'.cell? ⟨bq, oq + k * 4, none⟩ = some (.slice y.W y.v.wheres.length y.c) ∧ W'.cell? ⟨bq, oq + k * 4 + 1, none⟩ = some (.int .i64 y.v.col) ∧ W'.cell? ⟨bq, oq + k * 4 + 2, none⟩ = some (.int .i64 y.v.clip) ∧ W'.cell? ⟨bq, oq + k * 4 + 3, none⟩ = some (.int .i64 y.v.step)) (first | with_reducible exact SK _ bD | with_reducible exact SK _ b2)
              (first
              | (go_at_call 32; (with_reducible refine (HAx.out _ bD).mono ?_); rintro e w2 ⟨rfl, h2⟩; have e2 := D0.trans h2; have b2 := bD.trans (h2.mono bD.size)))
            have HRw := Lib.hid (HS.out.later e2)
            clear SK b2
            have HOa := Lib.hid (HRw.out.own.alloc (.cells #[.int .i64 1, .int .i64 1] 101))
            rw [hlen] at HOa
            have HNw := Lib.hid (frc_new w2 1 1 101)
            have hzw := HRw.out.size
            have kqc := HRw.out.blk.cell
            go_wp2_with (at_builtin; refine wpList_append_own_at _ rfl _ _ 96 rfl (W0.heap.size + 1) 101 i4 _ 2 16 Tryz.underlying96 hi4 hq0 hq1 hq2 rfl (by decide) _ _ _ rfl HOa.out ⟨w2.heap.size, 0, none⟩ 1 1 (frcC ⟨1, 1⟩) rfl rfl HNw.out (frcC_one _) (by unfold maxLen; omega) (by omega) (by simp; omega) ?_; intro v' w4 hown4 hg4 _ hat4; obtain ⟨A3, c3, rfl⟩ := own_slice hown4; have q4 := HRw.out.grown (by rw [hlen]; exact hg4); have q4c := q4.cell; have q4f := q4.free; have HR4 := Lib.hid (HRw.out.snoc (A3 := A3) (c3 := c3) (by rw [hlen]; exact hg4) (by rw [hlen]; exact hown4)); rw [hlen] at HR4)
            go_roundw
            case rel => exact ⟨i + 1, by omega, by go_num, Lib.hid ⟨A3, c3, by rw [HT.out]; exact HR4.out⟩⟩
            case measure => simp [vInt]; omega
        · have hil : ¬ (i : Int) < (l.length : Int) := by omega
          obtain rfl : i = l.length := by omega
          have hr1 := Lib.hid hS
          clear hS hB2
          go_wp2_with fail
          have hr2 : Hid (RSt W0 wr (-1) (X.take (l.length + 0)) A2 c2) := hr1
          go_loopw [11] (fun ii wr => ∃ (i : Nat), i ≤ q.length ∧ ii = .int .i64 i ∧ Hid (∃ A2 c2, RSt W0 wr (-1) (X.take (l.length + i)) A2 c2)) (fun ii _ => q.length - (vInt ii).toNat)
          case atStart => exact ⟨0, Nat.zero_le _, rfl, Lib.hid ⟨A2, c2, hr2.out⟩⟩
          case round =>
            clear hr1 hr2
            obtain ⟨i, hi, rfl, hR⟩ := hrel
            obtain ⟨A2, c2, hS⟩ := hR.out
            clear hR
            by_cases hlt : i < q.length
            · have hil : (i : Int) < (q.length : Int) := by omega
              have hXi := HXb.out i hlt (by omega)
              have htk : X.take (l.length + (i + 1)) = X.take (l.length + i) ++ [bitF (decide (i = k))] := by rw [← Nat.add_assoc, List.take_succ_eq_append_getElem (by omega), hXi]
              have hlen : (X.take (l.length + i)).length = l.length + i := by rw [List.length_take]; omega
              generalize hcs : X.take (l.length + i) = cs at *
              have HS := Lib.hid hS
              clear hXi hcs hS
              by_cases hik : i = k
              · have HT := Lib.hid htk
                rw [decide_eq_true hik] at HT
                have hb1 : ((i : Int) == (k : Int)) = true := by rw [hik]; simp
                clear htk hik
                have HOa := Lib.hid (HS.out.own.alloc (.cells #[.int .i64 1, .int .i64 1] 101))
                rw [hlen] at HOa
                have HNw := Lib.hid (frc_new wr 1 1 101)
                have hzw := HS.out.size
                have kqc := HS.out.blk.cell
                go_wp2_with (at_builtin; refine wpList_append_own_at _ rfl _ _ 96 rfl (W0.heap.size + 1) 101 i4 _ 2 16 Tryz.underlying96 hi4 hq0 hq1 hq2 rfl (by decide) _ _ _ rfl HOa.out ⟨wr.heap.size, 0, none⟩ 1 1 (frcC ⟨1, 1⟩) rfl rfl HNw.out (frcC_one _) (by unfold maxLen; omega) (by omega) (by simp; omega) ?_; intro v' w4 hown4 hg4 _ hat4; obtain ⟨A3, c3, rfl⟩ := own_slice hown4; have q4 := HS.out.grown (by rw [hlen]; exact hg4); have q4c := q4.cell; have q4f := q4.free; have HR4 := Lib.hid (HS.out.snoc (A3 := A3) (c3 := c3) (by rw [hlen]; exact hg4) (by rw [hlen]; exact hown4)); rw [hlen] at HR4)
                go_roundw
                case rel => exact ⟨i + 1, by omega, by go_num, Lib.hid ⟨A3, c3, by rw [HT.out]; exact HR4.out⟩⟩
                case measure => simp [vInt]; omega
              · have HT := Lib.hid htk
                rw [decide_eq_false hik] at HT
                have hb1 : ((i : Int) == (k : Int)) = false := by rw [beq_eq_false_iff_ne]; omega
                clear htk hik
                have HOa := Lib.hid (HS.out.own.alloc (.cells #[.int .i64 0, .int .i64 1] 101))
                rw [hlen] at HOa
                have HNw := Lib.hid (frc_new wr 0 1 101)
                have hzw := HS.out.size
                have kqc := HS.out.blk.cell
                go_wp2_with (at_builtin; refine wpList_append_own_at _ rfl _ _ 96 rfl (W0.heap.size + 1) 101 i4 _ 2 16 Tryz.underlying96 hi4 hq0 hq1 hq2 rfl (by decide) _ _ _ rfl HOa.out ⟨wr.heap.size, 0, none⟩ 1 1 (frcC ⟨0, 1⟩) rfl rfl HNw.out (frcC_one _) (by unfold maxLen; omega) (by omega) (by simp; omega) ?_; intro v' w4 hown4 hg4 _ hat4; obtain ⟨A3, c3, rfl⟩ := own_slice hown4; have q4 := HS.out.grown (by rw [hlen]; exact hg4); have q4c := q4.cell; have q4f := q4.free; have HR4 := Lib.hid (HS.out.snoc (A3 := A3) (c3 := c3) (by rw [hlen]; exact hg4) (by rw [hlen]; exact hown4)); rw [hlen] at HR4)
                go_roundw
                case rel => exact ⟨i + 1, by omega, by go_num, Lib.hid ⟨A3, c3, by rw [HT.out]; exact HR4.out⟩⟩
                case measure => simp [vInt]; omega
            · have hil : ¬ (i : Int) < (q.length : Int) := by omega
              obtain rfl : i = q.length := by omega
              rw [List.take_of_length_le (by omega)] at hS
              have hr3 := Lib.hid hS
              clear hS hXl HXa HXb HX HAy
              go_wp2_with fail
              have hwf := HKk.out.1.wf
              have hlb : lesB (refK l (q.map QueD.v) k) (eqnQ l q.length k y.v) = true := by
                have := HKk.out.2.2.1 (by simpa using HKl.out)
                unfold refB at this
                rw [Bool.and_eq_true] at this
                exact this.1
              rw [← HV.out] at hwf hlb
              have HWf := Lib.hid hwf
              have HLb := Lib.hid hlb
              have hr4 : Hid (RSt W0 wr (-1) (rowL (lesE ((Rs.map RowD.v).take 0) (eqnQ l q.length k y.v))) A2 c2) := Lib.hid (by have := hr3.out; rw [← HXX.out] at this; exact this)
              generalize he0 : eqnQ l q.length k y.v = e0 at *
              have HE0 : Hid (EqOk l.length q.length e0) := Lib.hid (by rw [← he0]; exact eqnQ_ok _ _ _ _)
              clear he0 hwf hlb hr3
              go_loopw [12] (fun ii wr => ∃ (i : Nat), i ≤ Rs.length ∧ ii = .int .i64 i ∧ Hid (∃ A2 c2, RSt W0 wr (-1) (rowL (lesE ((Rs.map RowD.v).take i) e0)) A2 c2)) (fun ii _ => Rs.length - (vInt ii).toNat)
              case atStart => exact ⟨0, Nat.zero_le _, rfl, Lib.hid ⟨A2, c2, hr4.out⟩⟩
              case round =>
                clear hr4
                obtain ⟨i, hi, rfl, hR⟩ := hrel
                obtain ⟨A2, c2, hS⟩ := hR.out
                clear hR
                by_cases hlt : i < Rs.length
                · have hil : (i : Int) < (Rs.length : Int) := by omega
                  have hlm : i < (Rs.map RowD.v).length := by simpa using hlt
                  obtain ⟨w1, w2⟩ := les_step _ _ HLb.out i hlm
                  have w3 := les_take_wf HWf.out HE0.out i
                  obtain ⟨w4, w5⟩ := HWf.out _ (List.getElem_mem hlm)
                  rw [List.getElem_map] at w1 w2 w4 w5
                  have hOr := HO.out.later hS.below
                  obtain ⟨gR, hRA, hgB, hgl, r0, r1, hfz⟩ := rows_at HO.out hlt
                  have hbl := hS.below
                  subst hRA
                  have hcl := hOr.frc hlt
                  have hl1 := row_len w3
                  have hl2 := row_len w4
                  have hbB := row_witB w3 w4 w1
                  have hwit := row_wit w3 w4
                  have hgt := row_get w3 w5
                  generalize lesE ((Rs.map RowD.v).take i) e0 = ei at *
                  generalize Rs[i] = z at *
                  have hfx : ei.fs.getD z.v.at_ default = (rowL ei)[z.v.at_]'(by omega) := by rw [← hgt, getD_lt _ _ (by omega)]
                  have hLs := Lib.hid (less10_any (-1) z.v.at_ (rowL ei) (rowL z.v.e) A2 z.A c2 z.c (ei.fs.getD z.v.at_ default) wr.drew (hS.frc.later (Below.refl _ _).drew) (hcl.later (Below.refl _ _).drew) (by omega) hbB)
                  rw [← hwit] at hLs
                  obtain ⟨bA, oA, hA2, hbA, x0, x1⟩ := frc_at hS.frc (k := z.v.at_) (by omega)
                  subst hA2
                  rw [← hfx] at x0 x1
                  generalize ei.fs.getD z.v.at_ default = fx at *
                  have haI : (z.v.at_ : Int) < ((l.length + q.length : Nat) : Int) := by omega
                  have haI2 : (z.v.at_ : Int) < (l.length : Int) + (q.length : Int) := by omega
                  have haN2 : z.v.at_ < l.length + q.length := by omega
                  clear hgt hfx w5
                  generalize hza : z.v.at_ = a at *
                  have han : ¬ (a : Int) < 0 := by omega
                  rw [hl1, hl2] at hLs
                  rw [hl2] at r1
                  have hkr := hS.blk
                  rw [hl1] at hkr
                  have hzl : (rowL (witE ei z.v)).length = l.length + q.length := by rw [hwit, less_len (by omega), hl1]
                  have HS := Lib.hid hS
                  have HW2 := Lib.hid w2
                  have hsz := hS.size
                  have D0 : Below wr.heap.size wr wr.drew := (Below.refl _ _).drew
                  have SB : ∀ W', Below W0.heap.size W0 W' → W'.cell? ⟨gR, i * 2, none⟩ = some (.int .i64 a) ∧ W'.cell? ⟨gR, i * 2 + 1, none⟩ = some (.slice z.A (l.length + q.length) z.c) := fun W' hW => ⟨(hW.cell (p := ⟨gR, i * 2, none⟩) hgl).trans r0, (hW.cell (p := ⟨gR, i * 2 + 1, none⟩) hgl).trans r1⟩
                  have bD := hbl.trans (D0.mono hbl.size)
                  have hkc := hkr.cell
                  have hkf := hkr.free
                  clear hS w1 w2 w3 w4 hOr hcl hl1 hl2 hbB hwit r0 r1 hfz
                  go_upto_region 22 with fail
                  refine wp_region_held_drew (S := (fun W' => W'.cell? ⟨gR, i * 2, none⟩ = some (.int .i64 a) ∧ W'.cell? ⟨gR, i * 2 + 1, none⟩ = some (.slice z.A (l.length + q.length) z.c))) (by kernel_rfl) ?_ (fun hHeld => ?_)
                  · (try dsimp only); first | with_reducible exact SB _ b6 | with_reducible exact SB _ bD | with_reducible exact SB _ b7
                  refine wpAnyH_take (i := 1) (v := ?_) rfl (by kernel_rfl) (by kernel_rfl) (by kernel_rfl) (fun _ _ _ h => h) (Or.inl ⟨by rfl, ?_⟩) (by assumption) ?_
                  case refine_2 => intro w hSw; (try dsimp only at hSw); go_simp; first | done | with_reducible rfl
                  try simp only [Act.put, List.setIfInBounds_toArray, List.set_cons_zero, List.set_cons_succ]
                  refine wpAnyH_take (i := 2) (v := ?_) rfl (by kernel_rfl) (by kernel_rfl) (by kernel_rfl) (fun _ _ _ h => h) (Or.inl ⟨by rfl, ?_⟩) (by assumption) ?_
                  case refine_2 => intro w hSw; (try dsimp only at hSw); go_simp; first | done | with_reducible rfl
                  try simp only [Act.put, List.setIfInBounds_toArray, List.set_cons_zero, List.set_cons_succ]
                  refine wpAnyH_take (i := 3) (v := ?_) rfl (by kernel_rfl) (by kernel_rfl) (by kernel_rfl) (fun _ _ _ h => h) (Or.inl ⟨by rfl, ?_⟩) (by assumption) ?_
                  case refine_2 => intro w hSw; (try dsimp only at hSw); go_simp; first | done | with_reducible rfl
                  try simp only [Act.put, List.setIfInBounds_toArray, List.set_cons_zero, List.set_cons_succ]
                  refine wpAnyH_take (i := 4) (v := ?_) rfl (by kernel_rfl) (by kernel_rfl) (by kernel_rfl) (fun _ _ _ h => h) (Or.inl ⟨by rfl, ?_⟩) (by assumption) ?_
                  case refine_2 => intro w hSw; (try dsimp only at hSw); go_simp; first | done | with_reducible rfl
                  try simp only [Act.put, List.setIfInBounds_toArray, List.set_cons_zero, List.set_cons_succ]
                  refine wpAnyH_take (i := 5) (v := ?_) rfl (by kernel_rfl) (by kernel_rfl) (by kernel_rfl) (fun _ _ _ h => h) (Or.inl ⟨by rfl, ?_⟩) (by assumption) ?_
                  case refine_2 => intro w hSw; (try dsimp only at hSw); go_simp; first | done | with_reducible rfl
                  try simp only [Act.put, List.setIfInBounds_toArray, List.set_cons_zero, List.set_cons_succ]
                  refine wpAnyH_take (i := 7) (v := ?_) rfl (by kernel_rfl) (by kernel_rfl) (by kernel_rfl) (fun _ _ _ h => h) (Or.inl ⟨by rfl, ?_⟩) (by assumption) ?_
                  case refine_2 => intro w hSw; (try dsimp only at hSw); go_simp; first | done | with_reducible rfl
                  try simp only [Act.put, List.setIfInBounds_toArray, List.set_cons_zero, List.set_cons_succ]
                  refine wpAnyH_take (i := 8) (v := ?_) rfl (by kernel_rfl) (by kernel_rfl) (by kernel_rfl) (fun _ _ _ h => h) (Or.inl ⟨by rfl, ?_⟩) (by assumption) ?_
                  case refine_2 => intro w hSw; (try dsimp only at hSw); go_simp; first | done | with_reducible rfl
                  try simp only [Act.put, List.setIfInBounds_toArray, List.set_cons_zero, List.set_cons_succ]
                  refine wpAnyH_take (i := 9) (v := ?_) rfl (by kernel_rfl) (by kernel_rfl) (by kernel_rfl) (fun _ _ _ h => h) (Or.inl ⟨by rfl, ?_⟩) (by assumption) ?_
                  case refine_2 => intro w hSw; (try dsimp only at hSw); go_simp; first | done | with_reducible rfl
                  try simp only [Act.put, List.setIfInBounds_toArray, List.set_cons_zero, List.set_cons_succ]
                  refine wpAnyH_take (i := 10) (v := ?_) rfl (by kernel_rfl) (by kernel_rfl) (by kernel_rfl) (fun _ _ _ h => h) (Or.inl ⟨by rfl, ?_⟩) (by assumption) ?_
                  case refine_2 => intro w hSw; (try dsimp only at hSw); go_simp; first | done | with_reducible rfl
                  try simp only [Act.put, List.setIfInBounds_toArray, List.set_cons_zero, List.set_cons_succ]
                  refine wpAnyH_take (i := 11) (v := ?_) rfl (by kernel_rfl) (by kernel_rfl) (by kernel_rfl) (fun _ _ _ h => h) (Or.inl ⟨by rfl, ?_⟩) (by assumption) ?_
                  case refine_2 => intro w hSw; (try dsimp only at hSw); go_simp; first | done | with_reducible rfl
                  try simp only [Act.put, List.setIfInBounds_toArray, List.set_cons_zero, List.set_cons_succ]
                  refine wpAnyH_ready (rs := [0, 6]) (by kernel_rfl) (by simp) ?_
                  refine AllReadyH.cons rfl (fun K hK => ?_) ?_
                  · go_simp
                    refine hK.out _ _ ?_ (fun hHeld => ?_)
                    · (try dsimp only); first | with_reducible exact SB _ b6 | with_reducible exact SB _ bD | with_reducible exact SB _ b7
                    clear hK K
                    try simp only [Act.put, List.setIfInBounds_toArray, List.set_cons_zero, List.set_cons_succ]
                    refine wpAnyH_ready (rs := [6]) (by kernel_rfl) (by simp) ?_
                    refine AllReadyH.cons rfl (fun K hK => ?_) ?_
                    · go_simp
                      refine hK.out _ _ ?_ (fun hHeld => ?_)
                      · (try dsimp only); first | with_reducible exact SB _ b6 | with_reducible exact SB _ bD | with_reducible exact SB _ b7
                      clear hK K
                      try simp only [Act.put, List.setIfInBounds_toArray, List.set_cons_zero, List.set_cons_succ]
                      refine wpAnyH_take (i := 12) (v := ?_) rfl (by kernel_rfl) (by kernel_rfl) (by kernel_rfl) (fun _ _ _ h => h) (Or.inl ⟨by rfl, ?_⟩) (by assumption) ?_
                      case refine_2 => intro w hSw; (try dsimp only at hSw); go_simp; first | done | with_reducible rfl
                      try simp only [Act.put, List.setIfInBounds_toArray, List.set_cons_zero, List.set_cons_succ]
                      refine wpAnyH_ready (rs := [13]) (by kernel_rfl) (by simp) ?_
                      refine AllReadyH.cons rfl (fun K hK => ?_) ?_
                      · go_simp
                        refine hK.out _ _ ?_ (fun hHeld => ?_)
                        · (try dsimp only); first | with_reducible exact SB _ b6 | with_reducible exact SB _ bD | with_reducible exact SB _ b7
                        clear hK K
                        try simp only [Act.put, List.setIfInBounds_toArray, List.set_cons_zero, List.set_cons_succ]
                        refine wpAnyH_ready (rs := [14]) (by kernel_rfl) (by simp) ?_
                        refine AllReadyH.cons rfl (fun K hK => ?_) ?_
                        · go_simp
                          go_at_call 81; (with_reducible refine (hLs.out).mono ?_); rintro e w6 ⟨A6, c6, rfl, ho6, h6⟩; have HO6 := Lib.hid ho6; have d2 := D0.trans h6; have k6 := hkr.below d2 hkr.lt; have k6c := k6.cell; have k6f := k6.free; have b6 := hbl.trans (d2.mono hbl.size); have b7 := (b6.setCell (p := ⟨W0.heap.size, 0, none⟩) (Nat.le_refl _) (.int .i64 (-1))).setCell (p := ⟨W0.heap.size, 1, none⟩) (Nat.le_refl _) (.slice A6 (l.length + q.length) c6)
                          go_wp2_with fail
                          refine hK.out _ _ ?_ (fun hHeld => ?_)
                          · (try dsimp only); first | with_reducible exact SB _ b6 | with_reducible exact SB _ bD | with_reducible exact SB _ b7
                          clear hK K
                          try simp only [Act.put, List.setIfInBounds_toArray, List.set_cons_zero, List.set_cons_succ]
                          refine wpAnyH_ready (rs := [15]) (by kernel_rfl) (by simp) ?_
                          refine AllReadyH.cons rfl (fun K hK => ?_) ?_
                          · go_simp
                            refine hK.out _ _ ?_ (fun hHeld => ?_)
                            · (try dsimp only); first | with_reducible exact SB _ b6 | with_reducible exact SB _ bD | with_reducible exact SB _ b7
                            clear hK K
                            try simp only [Act.put, List.setIfInBounds_toArray, List.set_cons_zero, List.set_cons_succ]
                            refine wpAnyH_done (by kernel_rfl) ?_ _
                            have HR6 := Lib.hid (HS.out.put (a' := -1) (A3 := A6) (c3 := c6) d2 HO6.out)
                            rw [hzl] at HR6
                            clear SB b6 b7 k6 k6c k6f HO6 hkc hkf bD x0 x1
                            go_wp2_with fail
                            go_roundw
                            all_goals first
                              | (simp [vInt]; omega; done)
                              | exact ⟨i + 1, by omega, by go_num, Lib.hid ⟨A6, c6, by rw [HW2.out]; exact HR6.out⟩⟩
                          exact AllReadyH.nil
                        exact AllReadyH.nil
                      exact AllReadyH.nil
                    exact AllReadyH.nil
                  refine AllReadyH.cons rfl (fun K hK => ?_) ?_
                  · go_simp
                    refine hK.out _ _ ?_ (fun hHeld => ?_)
                    · (try dsimp only); first | with_reducible exact SB _ b6 | with_reducible exact SB _ bD | with_reducible exact SB _ b7
                    clear hK K
                    try simp only [Act.put, List.setIfInBounds_toArray, List.set_cons_zero, List.set_cons_succ]
                    refine wpAnyH_take (i := 12) (v := ?_) rfl (by kernel_rfl) (by kernel_rfl) (by kernel_rfl) (fun _ _ _ h => h) (Or.inl ⟨by rfl, ?_⟩) (by assumption) ?_
                    case refine_2 => intro w hSw; (try dsimp only at hSw); go_simp; first | done | with_reducible rfl
                    try simp only [Act.put, List.setIfInBounds_toArray, List.set_cons_zero, List.set_cons_succ]
                    refine wpAnyH_ready (rs := [0, 13]) (by kernel_rfl) (by simp) ?_
                    refine AllReadyH.cons rfl (fun K hK => ?_) ?_
                    · go_simp
                      refine hK.out _ _ ?_ (fun hHeld => ?_)
                      · (try dsimp only); first | with_reducible exact SB _ b6 | with_reducible exact SB _ bD | with_reducible exact SB _ b7
                      clear hK K
                      try simp only [Act.put, List.setIfInBounds_toArray, List.set_cons_zero, List.set_cons_succ]
                      refine wpAnyH_ready (rs := [13]) (by kernel_rfl) (by simp) ?_
                      refine AllReadyH.cons rfl (fun K hK => ?_) ?_
                      · go_simp
                        refine hK.out _ _ ?_ (fun hHeld => ?_)
                        · (try dsimp only); first | with_reducible exact SB _ b6 | with_reducible exact SB _ bD | with_reducible exact SB _ b7
                        clear hK K
                        try simp only [Act.put, List.setIfInBounds_toArray, List.set_cons_zero, List.set_cons_succ]
                        refine wpAnyH_ready (rs := [14]) (by kernel_rfl) (by simp) ?_
                        refine AllReadyH.cons rfl (fun K hK => ?_) ?_
                        · go_simp
                          go_at_call 81; (with_reducible refine (hLs.out).mono ?_); rintro e w6 ⟨A6, c6, rfl, ho6, h6⟩; have HO6 := Lib.hid ho6; have d2 := D0.trans h6; have k6 := hkr.below d2 hkr.lt; have k6c := k6.cell; have k6f := k6.free; have b6 := hbl.trans (d2.mono hbl.size); have b7 := (b6.setCell (p := ⟨W0.heap.size, 0, none⟩) (Nat.le_refl _) (.int .i64 (-1))).setCell (p := ⟨W0.heap.size, 1, none⟩) (Nat.le_refl _) (.slice A6 (l.length + q.length) c6)
                          go_wp2_with fail
                          refine hK.out _ _ ?_ (fun hHeld => ?_)
                          · (try dsimp only); first | with_reducible exact SB _ b6 | with_reducible exact SB _ bD | with_reducible exact SB _ b7
                          clear hK K
                          try simp only [Act.put, List.setIfInBounds_toArray, List.set_cons_zero, List.set_cons_succ]
                          refine wpAnyH_ready (rs := [15]) (by kernel_rfl) (by simp) ?_
                          refine AllReadyH.cons rfl (fun K hK => ?_) ?_
                          · go_simp
                            refine hK.out _ _ ?_ (fun hHeld => ?_)
                            · (try dsimp only); first | with_reducible exact SB _ b6 | with_reducible exact SB _ bD | with_reducible exact SB _ b7
                            clear hK K
                            try simp only [Act.put, List.setIfInBounds_toArray, List.set_cons_zero, List.set_cons_succ]
                            refine wpAnyH_done (by kernel_rfl) ?_ _
                            have HR6 := Lib.hid (HS.out.put (a' := -1) (A3 := A6) (c3 := c6) d2 HO6.out)
                            rw [hzl] at HR6
                            clear SB b6 b7 k6 k6c k6f HO6 hkc hkf bD x0 x1
                            go_wp2_with fail
                            go_roundw
                            all_goals first
                              | (simp [vInt]; omega; done)
                              | exact ⟨i + 1, by omega, by go_num, Lib.hid ⟨A6, c6, by rw [HW2.out]; exact HR6.out⟩⟩
                          exact AllReadyH.nil
                        exact AllReadyH.nil
                      exact AllReadyH.nil
                    refine AllReadyH.cons rfl (fun K hK => ?_) ?_
                    · go_simp
                      refine hK.out _ _ ?_ (fun hHeld => ?_)
                      · (try dsimp only); first | with_reducible exact SB _ b6 | with_reducible exact SB _ bD | with_reducible exact SB _ b7
                      clear hK K
                      try simp only [Act.put, List.setIfInBounds_toArray, List.set_cons_zero, List.set_cons_succ]
                      refine wpAnyH_ready (rs := [0]) (by kernel_rfl) (by simp) ?_
                      refine AllReadyH.cons rfl (fun K hK => ?_) ?_
                      · go_simp
                        refine hK.out _ _ ?_ (fun hHeld => ?_)
                        · (try dsimp only); first | with_reducible exact SB _ b6 | with_reducible exact SB _ bD | with_reducible exact SB _ b7
                        clear hK K
                        try simp only [Act.put, List.setIfInBounds_toArray, List.set_cons_zero, List.set_cons_succ]
                        refine wpAnyH_ready (rs := [14]) (by kernel_rfl) (by simp) ?_
                        refine AllReadyH.cons rfl (fun K hK => ?_) ?_
                        · go_simp
                          go_at_call 81; (with_reducible refine (hLs.out).mono ?_); rintro e w6 ⟨A6, c6, rfl, ho6, h6⟩; have HO6 := Lib.hid ho6; have d2 := D0.trans h6; have k6 := hkr.below d2 hkr.lt; have k6c := k6.cell; have k6f := k6.free; have b6 := hbl.trans (d2.mono hbl.size); have b7 := (b6.setCell (p := ⟨W0.heap.size, 0, none⟩) (Nat.le_refl _) (.int .i64 (-1))).setCell (p := ⟨W0.heap.size, 1, none⟩) (Nat.le_refl _) (.slice A6 (l.length + q.length) c6)
                          go_wp2_with fail
                          refine hK.out _ _ ?_ (fun hHeld => ?_)
                          · (try dsimp only); first | with_reducible exact SB _ b6 | with_reducible exact SB _ bD | with_reducible exact SB _ b7
                          clear hK K
                          try simp only [Act.put, List.setIfInBounds_toArray, List.set_cons_zero, List.set_cons_succ]
                          refine wpAnyH_ready (rs := [15]) (by kernel_rfl) (by simp) ?_
                          refine AllReadyH.cons rfl (fun K hK => ?_) ?_
                          · go_simp
                            refine hK.out _ _ ?_ (fun hHeld => ?_)
                            · (try dsimp only); first | with_reducible exact SB _ b6 | with_reducible exact SB _ bD | with_reducible exact SB _ b7
                            clear hK K
                            try simp only [Act.put, List.setIfInBounds_toArray, List.set_cons_zero, List.set_cons_succ]
                            refine wpAnyH_done (by kernel_rfl) ?_ _
                            have HR6 := Lib.hid (HS.out.put (a' := -1) (A3 := A6) (c3 := c6) d2 HO6.out)
                            rw [hzl] at HR6
                            clear SB b6 b7 k6 k6c k6f HO6 hkc hkf bD x0 x1
                            go_wp2_with fail
                            go_roundw
                            all_goals first
                              | (simp [vInt]; omega; done)
                              | exact ⟨i + 1, by omega, by go_num, Lib.hid ⟨A6, c6, by rw [HW2.out]; exact HR6.out⟩⟩
                          exact AllReadyH.nil
                        exact AllReadyH.nil
                      exact AllReadyH.nil
                    exact AllReadyH.nil
                  exact AllReadyH.nil
                · have hil : ¬ (i : Int) < (Rs.length : Int) := by omega
                  obtain rfl : i = Rs.length := by omega
                  rw [List.take_of_length_le (by simp)] at hS
                  have hr5 := Lib.hid hS
                  clear hS
                  go_wp2_with fail
                  have hwfE := les_wf _ _ HWf.out HE0.out
                  have hrb : refB (Rs.map RowD.v) e0 = true := by have := HKk.out.2.2.1 (by simpa using HKl.out); rw [HV.out]; exact this
                  have hrs : refK l (q.map QueD.v) (k + 1) = refS (Rs.map RowD.v) e0 := by rw [HV.out]; exact HKs.out
                  unfold refB at hrb
                  unfold refS at hrs
                  generalize lesE (Rs.map RowD.v) e0 = e at *
                  rw [Bool.and_eq_true] at hrb
                  have HRb := Lib.hid hrb.2
                  have HRs := Lib.hid hrs
                  have HEk := Lib.hid hwfE
                  have hEl := row_len hwfE
                  have hfl := hwfE.fl
                  have HRo := Lib.hid (row_ok hwfE)
                  have HGet := Lib.hid (fun i (hi : i < l.length) => row_get hwfE hi)
                  have hr6 : Hid (∃ A2 c2, RSt W0 wr (atI (fndF e.fs l.length)) (rowL e) A2 c2) := Lib.hid ⟨A2, c2, by rw [← hfl, fnd_end]; exact hr5.out⟩
                  clear hrb hrs hwfE hr5
                  go_loopw [13] (fun ii wr => ∃ (i : Nat), i ≤ l.length ∧ ii = .int .i64 ((i : Int) - 1) ∧ Hid (∃ A2 c2, RSt W0 wr (atI (fndF e.fs i)) (rowL e) A2 c2)) (fun ii _ => (vInt ii + 1).toNat)
                  case atStart => exact ⟨l.length, Nat.le_refl _, by first | rfl | go_num, hr6⟩
                  case round =>
                    clear hr6
                    obtain ⟨i, hi, rfl, hR⟩ := hrel
                    obtain ⟨A2, c2, hS⟩ := hR.out
                    clear hR
                    by_cases hi0 : i = 0
                    · subst hi0
                      have hmi : ((0 : Nat) : Int) - 1 = -1 := by omega
                      rw [hmi]
                      cases hf : fndF e.fs 0 with
                      | none =>
                        rw [hf] at hS
                        have hem : empE e = true := by unfold empE; rw [hf]; rfl
                        have hk2 := HRs.out
                        rw [if_pos hem] at hk2
                        have HN := Lib.hid (⟨HO.out.later hS.below, hk2.symm, HB.out.trans (hS.below.mono HB.out.size)⟩ : RowsOwn w.heap.size wr R c Rs ∧ Rs.map RowD.v = refK l (q.map QueD.v) (k + 1) ∧ Below w.heap.size w wr)
                        have kc := hS.blk.cell
                        have hat : atI none = -1 := rfl
                        rw [hat] at kc
                        clear hS hk2 hem hf
                        go_wp2_with fail
                        go_roundw
                        case rel => exact ⟨k + 1, R, c, Rs, HKl.out, rfl, by go_num, HN⟩
                        case measure => have := HKl.out; simp [vInt]; omega
                      | some c0 =>
                        rw [hf] at hS
                        have hat : atI (some c0) = (c0 : Int) := rfl
                        rw [hat] at hS
                        have hc0 : c0 < l.length := by rw [← hfl]; exact fnd_lt hf
                        obtain ⟨gA, hA2, hgA, hgAl⟩ := hS.form (by omega)
                        subst hA2
                        obtain ⟨bA, oA, hA3, hbA, x0, x1⟩ := frc_at hS.frc (k := c0) (by omega)
                        obtain ⟨rfl, rfl⟩ : gA = bA ∧ 0 = oA := by simpa using hA3
                        rw [Nat.zero_add] at x0 x1
                        have hgp := HGet.out c0 hc0
                        rw [getD_lt _ _ (by omega)] at hgp
                        rw [hgp] at x0 x1
                        have hem : empE e = false := by unfold empE; rw [hf]; rfl
                        have hrb := HRb.out
                        have hrs := HRs.out
                        rw [hem, if_neg (by decide)] at hrs
                        rw [hem, Bool.false_or, Bool.and_eq_true] at hrb
                        obtain ⟨bd1, bd2, bd3⟩ := leadB_row hf hrb.1
                        obtain ⟨lr1, lr2⟩ := lead_row hf
                        generalize hfx : e.fs.getD c0 default = fx at *
                        have HDv := Lib.hid (fun y (hy : y ∈ rowL e) W => divide10_any y fx (bd1 y hy) bd2 bd3 W)
                        have HJ := Lib.hid (⟨hrb.2, hrs, lr1, lr2⟩ : joinB (Rs.map RowD.v) (leadE e) = true ∧ refK l (q.map QueD.v) (k + 1) = joinL (Rs.map RowD.v) (leadE e) ∧ rowL (leadE e).e = divL (rowL e) fx ∧ (leadE e).at_ = c0)
                        have hcI : (c0 : Int) < ((l.length + q.length : Nat) : Int) := by omega
                        have hcN : ¬ (c0 : Int) < 0 := by omega
                        have kc := hS.blk.cell
                        rw [hEl] at kc
                        have HF := Lib.hid hf
                        have HS := Lib.hid hS
                        have hEs := hS.size
                        generalize hWf : wr = wf at *
                        have bF := (Below.refl wf.heap.size wf).alloc (Nat.le_refl _) (.cells #[.int .i64 fx.n, .int .i64 fx.d] 101)
                        have kF := Lib.hid (Blk.new wf #[.int .i64 fx.n, .int .i64 fx.d] 101)
                        have HS1 := Lib.hid (HS.out.later bF)
                        have HAl := Lib.hid hgAl
                        clear bd1 bd2 bd3 hrb hrs lr1 lr2 hgp hS hf hfx bF hem hgAl hWf
                        go_wp2_with fail
                        clear kc x0 x1
                        generalize hWG : wf.alloc (.cells #[.int .i64 fx.n, .int .i64 fx.d] 101) = W6 at *
                        clear hWG
                        go_loopw [15] (fun ii wr => ∃ (i : Nat), i ≤ l.length + q.length ∧ ii = .int .i64 i ∧ Hid (RSt W0 wr c0 (divV (rowL e) fx i) (some ⟨gA, 0, none⟩) c2 ∧ Blk wr wf.heap.size #[.int .i64 fx.n, .int .i64 fx.d] 101)) (fun ii _ => l.length + q.length - (vInt ii).toNat)
                        case atStart => exact ⟨0, Nat.zero_le _, rfl, Lib.hid ⟨by rw [divV_zero]; exact HS1.out, kF.out⟩⟩
                        case round =>
                          clear HS1 kF
                          obtain ⟨i, hi, rfl, hR⟩ := hrel
                          obtain ⟨hS, kF⟩ := hR.out
                          clear hR
                          have hiw : IntKind.i64.wrap ((l.length : Int) + (q.length : Int)) = ((l.length + q.length : Nat) : Int) := by rw [IntWalk.i64_in _ (by omega)]; push_cast; rfl
                          by_cases hlt : i < l.length + q.length
                          · have hil : (i : Int) < ((l.length + q.length : Nat) : Int) := by omega
                            have hcl : (divV (rowL e) fx i).length = l.length + q.length := by rw [divV_len _ _ (by omega), hEl]
                            obtain ⟨bA, oA, hA3, hbA, x0, x1⟩ := frc_at hS.frc (k := i) (by omega)
                            obtain ⟨rfl, rfl⟩ : gA = bA ∧ 0 = oA := by simpa using hA3
                            rw [Nat.zero_add, divV_get (by omega)] at x0 x1
                            have HDi := Lib.hid (HDv.out (rowL e)[i] (List.getElem_mem (by omega)))
                            have hset := divV_set (cs := rowL e) (x := fx) (i := i) (by omega)
                            generalize (rowL e)[i]'(by omega) = y at *
                            generalize hry : divF y fx = ry at *
                            have HSt := Lib.hid hset
                            have D0 : Below wr.heap.size wr wr.drew := (Below.refl _ _).drew
                            have hkr := hS.blk
                            rw [hcl] at hkr
                            have HPut := Lib.hid (fun (w6 : World) (hb : Below wr.heap.size wr w6) => hS.cell hb (i := i) (by omega) ry)
                            have HOf := Lib.hid (fun (w6 : World) (hb : Below wr.heap.size wr w6) k => (hS.later hb).own.frozenAt k)
                            have hkl := hkr.lt
                            have kFl := kF.lt
                            have hgw := HAl.out
                            have SB : ∀ W', Below wr.heap.size wr W' → (∀ j, W'.cell? ⟨W0.heap.size, j, none⟩ = (#[.int .i64 c0, .slice (some ⟨gA, 0, none⟩) (l.length + q.length) c2] : Array Value)[j]?) ∧ (∀ j, W'.cell? ⟨wf.heap.size, j, none⟩ = (#[.int .i64 fx.n, .int .i64 fx.d] : Array Value)[j]?) := fun W' hW => ⟨(hkr.below hW hkl).cell, (kF.below hW kFl).cell⟩
                            have SS : ∀ W', Below wr.heap.size wr W' → ∀ (o1 o2 : Nat) (v1 v2 : Value), (∀ j, ((W'.setCell ⟨gA, o1, none⟩ v1).setCell ⟨gA, o2, none⟩ v2).cell? ⟨W0.heap.size, j, none⟩ = (#[.int .i64 c0, .slice (some ⟨gA, 0, none⟩) (l.length + q.length) c2] : Array Value)[j]?) ∧ (∀ j, ((W'.setCell ⟨gA, o1, none⟩ v1).setCell ⟨gA, o2, none⟩ v2).cell? ⟨wf.heap.size, j, none⟩ = (#[.int .i64 fx.n, .int .i64 fx.d] : Array Value)[j]?) := fun W' hW o1 o2 v1 v2 => ⟨(((hkr.below hW hkl).far (p := ⟨gA, o1, none⟩) (by show W0.heap.size ≠ gA; omega) v1).far (p := ⟨gA, o2, none⟩) (by show W0.heap.size ≠ gA; omega) v2).cell, (((kF.below hW kFl).far (p := ⟨gA, o1, none⟩) (by show wf.heap.size ≠ gA; omega) v1).far (p := ⟨gA, o2, none⟩) (by show wf.heap.size ≠ gA; omega) v2).cell⟩
                            have HKF := Lib.hid kF
                            clear hset kF
                            go_upto_region 33 with fail
                            refine wp_region_held_drew (S := (fun W' => (∀ j, W'.cell? ⟨W0.heap.size, j, none⟩ = (#[.int .i64 c0, .slice (some ⟨gA, 0, none⟩) (l.length + q.length) c2] : Array Value)[j]?) ∧ (∀ j, W'.cell? ⟨wf.heap.size, j, none⟩ = (#[.int .i64 fx.n, .int .i64 fx.d] : Array Value)[j]?))) (by kernel_rfl) ?_ (fun hHeld => ?_)
                            · (try dsimp only); first | with_reducible exact SB _ D0 | with_reducible exact SB _ d2 | with_reducible exact SS _ d2 _ _ _ _
                            refine wpAnyH_take (i := 0) (v := ?_) rfl (by kernel_rfl) (by kernel_rfl) (by kernel_rfl) (fun _ _ _ h => h) (Or.inl ⟨by rfl, ?_⟩) (by assumption) ?_
                            case refine_2 => intro w hSw; (try dsimp only at hSw); go_simp; first | done | with_reducible rfl
                            try simp only [Act.put, List.setIfInBounds_toArray, List.set_cons_zero, List.set_cons_succ]
                            refine wpAnyH_take (i := 1) (v := ?_) rfl (by kernel_rfl) (by kernel_rfl) (by kernel_rfl) (fun _ _ _ h => h) (Or.inl ⟨by rfl, ?_⟩) (by assumption) ?_
                            case refine_2 => intro w hSw; (try dsimp only at hSw); go_simp; first | done | with_reducible rfl
                            try simp only [Act.put, List.setIfInBounds_toArray, List.set_cons_zero, List.set_cons_succ]
                            refine wpAnyH_take (i := 2) (v := ?_) rfl (by kernel_rfl) (by kernel_rfl) (by kernel_rfl) (fun _ _ _ h => h) (Or.inl ⟨by rfl, ?_⟩) (by assumption) ?_
                            case refine_2 => intro w hSw; (try dsimp only at hSw); go_simp; first | done | with_reducible rfl
                            try simp only [Act.put, List.setIfInBounds_toArray, List.set_cons_zero, List.set_cons_succ]
                            refine wpAnyH_take (i := 3) (v := ?_) rfl (by kernel_rfl) (by kernel_rfl) (by kernel_rfl) (fun _ _ _ h => h) (Or.inl ⟨by rfl, ?_⟩) (by assumption) ?_
                            case refine_2 => intro w hSw; (try dsimp only at hSw); go_simp; first | done | with_reducible rfl
                            try simp only [Act.put, List.setIfInBounds_toArray, List.set_cons_zero, List.set_cons_succ]
                            refine wpAnyH_take (i := 4) (v := ?_) rfl (by kernel_rfl) (by kernel_rfl) (by kernel_rfl) (fun _ _ _ h => h) (Or.inl ⟨by rfl, ?_⟩) (by assumption) ?_
                            case refine_2 => intro w hSw; (try dsimp only at hSw); go_simp; first | done | with_reducible rfl
                            try simp only [Act.put, List.setIfInBounds_toArray, List.set_cons_zero, List.set_cons_succ]
                            refine wpAnyH_take (i := 5) (v := ?_) rfl (by kernel_rfl) (by kernel_rfl) (by kernel_rfl) (fun _ _ _ h => h) (Or.inl ⟨by rfl, ?_⟩) (by assumption) ?_
                            case refine_2 => intro w hSw; (try dsimp only at hSw); go_simp; first | done | with_reducible rfl
                            try simp only [Act.put, List.setIfInBounds_toArray, List.set_cons_zero, List.set_cons_succ]
                            refine wpAnyH_take (i := 6) (v := ?_) rfl (by kernel_rfl) (by kernel_rfl) (by kernel_rfl) (fun _ _ _ h => h) (Or.inl ⟨by rfl, ?_⟩) (by assumption) ?_
                            case refine_2 => intro w hSw; (try dsimp only at hSw); go_simp; first | done | with_reducible rfl
                            try simp only [Act.put, List.setIfInBounds_toArray, List.set_cons_zero, List.set_cons_succ]
                            refine wpAnyH_take (i := 8) (v := ?_) rfl (by kernel_rfl) (by kernel_rfl) (by kernel_rfl) (fun _ _ _ h => h) (Or.inl ⟨by rfl, ?_⟩) (by assumption) ?_
                            case refine_2 => intro w hSw; (try dsimp only at hSw); go_simp; first | done | with_reducible rfl
                            try simp only [Act.put, List.setIfInBounds_toArray, List.set_cons_zero, List.set_cons_succ]
                            refine wpAnyH_ready (rs := [7]) (by kernel_rfl) (by simp) ?_
                            refine AllReadyH.cons rfl (fun K hK => ?_) ?_
                            · go_simp
                              refine hK.out _ _ ?_ (fun hHeld => ?_)
                              · (try dsimp only); first | with_reducible exact SB _ D0 | with_reducible exact SB _ d2 | with_reducible exact SS _ d2 _ _ _ _
                              clear hK K
                              try simp only [Act.put, List.setIfInBounds_toArray, List.set_cons_zero, List.set_cons_succ]
                              refine wpAnyH_ready (rs := [9]) (by kernel_rfl) (by simp) ?_
                              refine AllReadyH.cons rfl (fun K hK => ?_) ?_
                              · go_simp
                                go_at_call 82; (with_reducible refine (HDi.out _).mono ?_); rintro e6 w6 ⟨rfl, h6⟩; have d2 := D0.trans h6; have fz := HOf.out w6 d2; have y0 := (d2.cell (p := ⟨gA, i * 2, none⟩) hbA).trans x0; have y1 := (d2.cell (p := ⟨gA, i * 2 + 1, none⟩) hbA).trans x1
                                go_wp2_with fail
                                refine hK.out _ _ ?_ (fun hHeld => ?_)
                                · (try dsimp only); first | with_reducible exact SB _ D0 | with_reducible exact SB _ d2 | with_reducible exact SS _ d2 _ _ _ _
                                clear hK K
                                try simp only [Act.put, List.setIfInBounds_toArray, List.set_cons_zero, List.set_cons_succ]
                                refine wpAnyH_take (i := 10) (v := ?_) rfl (by kernel_rfl) (by kernel_rfl) (by kernel_rfl) (fun _ _ _ h => h) (Or.inl ⟨by rfl, ?_⟩) (by assumption) ?_
                                case refine_2 => intro w hSw; (try dsimp only at hSw); go_simp; first | done | with_reducible rfl
                                try simp only [Act.put, List.setIfInBounds_toArray, List.set_cons_zero, List.set_cons_succ]
                                refine wpAnyH_ready (rs := [11]) (by kernel_rfl) (by simp) ?_
                                refine AllReadyH.cons rfl (fun K hK => ?_) ?_
                                · go_simp
                                  refine hK.out _ _ ?_ (fun hHeld => ?_)
                                  · (try dsimp only); first | with_reducible exact SB _ D0 | with_reducible exact SB _ d2 | with_reducible exact SS _ d2 _ _ _ _
                                  clear hK K
                                  try simp only [Act.put, List.setIfInBounds_toArray, List.set_cons_zero, List.set_cons_succ]
                                  refine wpAnyH_done (by kernel_rfl) ?_ _
                                  have HR6 := Lib.hid (HPut.out w6 d2)
                                  have HK6 := Lib.hid (((HKF.out.below d2 kFl).far (p := ⟨gA, i * 2, none⟩) (by show wf.heap.size ≠ gA; omega) (.int .i64 ry.n)).far (p := ⟨gA, i * 2 + 1, none⟩) (by show wf.heap.size ≠ gA; omega) (.int .i64 ry.d))
                                  clear SB SS x0 x1 y0 y1 fz hkr
                                  go_wp2_with fail
                                  go_roundw
                                  all_goals first
                                    | (simp [vInt]; omega; done)
                                    | (simp [vInt]; done)
                                    | exact ⟨i + 1, by omega, by go_num, Lib.hid ⟨by rw [← HSt.out]; exact HR6.out, HK6.out⟩⟩
                                exact AllReadyH.nil
                              exact AllReadyH.nil
                            exact AllReadyH.nil
                          · have hil : ¬ (i : Int) < ((l.length + q.length : Nat) : Int) := by omega
                            obtain rfl : i = l.length + q.length := by omega
                            rw [show l.length + q.length = (rowL e).length from hEl.symm, divV_all, ← HJ.out.2.2.1] at hS
                            have hGR : ∀ b, (Value.slice R Rs.length c).ownBlock = some b → b < W0.heap.size := fun b hb => (HO.out.1.lt b hb).2
                            have hXl : (rowL (leadE e).e).length = l.length + q.length := by
                              rw [HJ.out.2.2.1]
                              unfold divL
                              rw [List.length_map, hEl]
                            have HGR := Lib.hid hGR
                            have HC2 := Lib.hid (own_capQ hS.own)
                            have hbl := hS.below
                            have hkb := hS.blk
                            rw [hXl] at hkb
                            have HN0 : Hid (∃ Ri : List RowD, Ri.map RowD.v = joinV (Rs.map RowD.v) (leadE e) 0 ∧ Ri.length = Rs.length ∧ RowsOwn w.heap.size wr R c Ri ∧ Blk wr W0.heap.size #[.int .i64 c0, .slice (some ⟨gA, 0, none⟩) (l.length + q.length) c2] 98 ∧ FlatP 2 frcC wr (fun b => (Value.slice R Rs.length c).ownBlock ≠ some b) (some ⟨gA, 0, none⟩) (rowL (leadE e).e) ∧ W0.heap.size ≤ wr.heap.size ∧ Below w.heap.size w wr) := Lib.hid ⟨Rs, by simp [joinV], rfl, HO.out.later hbl, hkb, FlatP.of_own (c := c2) frcC_len (by decide) hS.own (fun b h1 _ _ h2 => by have := hGR b h2; omega), hbl.size, HB.out.trans (hbl.mono HB.out.size)⟩
                            have HXe : Hid (EqOk l.length q.length (leadE e).e) := Lib.hid (col_lead HEk.out (by unfold empE; rw [HF.out]; rfl)).1
                            clear hS hGR hbl hkb
                            go_wp2_with fail
                            go_loopw [16] (fun ii wr => ∃ (i : Nat), i ≤ Rs.length ∧ ii = .int .i64 i ∧ Hid (∃ Ri : List RowD, Ri.map RowD.v = joinV (Rs.map RowD.v) (leadE e) i ∧ Ri.length = Rs.length ∧ RowsOwn w.heap.size wr R c Ri ∧ Blk wr W0.heap.size #[.int .i64 c0, .slice (some ⟨gA, 0, none⟩) (l.length + q.length) c2] 98 ∧ FlatP 2 frcC wr (fun b => (Value.slice R Rs.length c).ownBlock ≠ some b) (some ⟨gA, 0, none⟩) (rowL (leadE e).e) ∧ W0.heap.size ≤ wr.heap.size ∧ Below w.heap.size w wr)) (fun ii _ => Rs.length - (vInt ii).toNat)
                            case atStart => exact ⟨0, Nat.zero_le _, rfl, HN0⟩
                            case round =>
                              clear HN0
                              obtain ⟨i, hi, rfl, hR⟩ := hrel
                              obtain ⟨Ri, hRv, hRl, hRO, hkb, hFX, hsz, hBw⟩ := hR.out
                              clear hR
                              by_cases hlt : i < Rs.length
                              · have hil : (i : Int) < (Rs.length : Int) := by omega
                                have hlm : i < (Rs.map RowD.v).length := by simpa using hlt
                                have hlR : i < Ri.length := by omega
                                have hzv : Ri[i].v = (Rs.map RowD.v)[i] := by
                                  have h1 := joinV_get (L0 := Rs.map RowD.v) (x := leadE e) hlm
                                  rw [← hRv, List.getElem?_map, List.getElem?_eq_getElem hlR] at h1
                                  simpa using h1
                                have hjs := joinV_set (L0 := Rs.map RowD.v) (x := leadE e) hlm
                                have hwb : witB (Rs.map RowD.v)[i].e (leadE e) = true := by
                                  have h1 := HJ.out.1
                                  unfold joinB at h1
                                  rw [List.all_eq_true] at h1
                                  exact h1 _ (List.getElem_mem hlm)
                                obtain ⟨w4, w5⟩ := HWf.out _ (List.getElem_mem hlm)
                                rw [← hzv] at hjs hwb w4 w5
                                obtain ⟨gR, hRA, hgB, hgl, r0, r1, hfz⟩ := rows_at hRO hlR
                                subst hRA
                                have hgw := HGR.out gR rfl
                                have hl1 := row_len w4
                                have hbB := row_witB w4 HXe.out hwb
                                have hwit := row_wit w4 HXe.out (l := leadE e)
                                have hat2 := HJ.out.2.2.2
                                rw [hat2] at hbB hwit
                                have hcl := hRO.frc hlR
                                obtain ⟨bA, oA, hA2, hbA, x0, x1⟩ := frc_at hcl (k := c0) (by omega)
                                have hgt := row_get w4 hc0
                                rw [getD_lt _ _ (by omega)] at hgt
                                rw [hgt] at x0 x1
                                have hLs := Lib.hid (less10_any Ri[i].v.at_ c0 (rowL Ri[i].v.e) (rowL (leadE e).e) Ri[i].A (some ⟨gA, 0, none⟩) Ri[i].c c2 (Ri[i].v.e.fs.getD c0 default) wr.drew (hcl.later (Below.refl _ _).drew) (hFX.flat.later (Below.refl _ _).drew) (by omega) hbB)
                                rw [← hwit, hl1, hXl] at hLs
                                have hzl : (rowL (witE Ri[i].v.e (leadE e))).length = l.length + q.length := by rw [hwit, less_len (by omega), hl1]
                                have HPut := Lib.hid (fun (w6 : World) (hb : Below wr.heap.size wr w6) (F : Option Addr) (f : Nat) (hF : FlatP 2 frcC w6 (fun b => wr.heap.size ≤ b) F (rowL (witE Ri[i].v.e (leadE e)))) (hc : (rowL (witE Ri[i].v.e (leadE e))).length ≤ f) => rows_put hRO hlR hb (v := ⟨witE Ri[i].v.e (leadE e), Ri[i].v.at_⟩) (F := F) (f := f) hF hc)
                                have HRs6 : Hid (∀ w6, Below wr.heap.size wr w6 → w6.cell? ⟨gR, i * 2, none⟩ = some (.int .i64 Ri[i].v.at_) ∧ w6.cell? ⟨gR, i * 2 + 1, none⟩ = some (.slice Ri[i].A (rowL Ri[i].v.e).length Ri[i].c) ∧ ∀ k, w6.frozen? ⟨gR, k, none⟩ = false) := Lib.hid (fun w6 hb => ⟨(hb.cell (p := ⟨gR, i * 2, none⟩) hgl).trans r0, (hb.cell (p := ⟨gR, i * 2 + 1, none⟩) hgl).trans r1, by
                                  obtain ⟨g9, hg9, _, _, _, _, hz9⟩ := rows_at (hRO.later hb) hlR
                                  simp only [Option.some.injEq, Addr.mk.injEq, and_true] at hg9
                                  subst hg9
                                  exact hz9⟩)
                                rw [hl1] at r1
                                generalize Ri[i].v.e.fs.getD c0 default = fx2 at *
                                have HSet : Hid ((Ri.map RowD.v).set i ⟨witE Ri[i].v.e (leadE e), Ri[i].v.at_⟩ = joinV (Rs.map RowD.v) (leadE e) (i + 1)) := Lib.hid (by rw [hRv]; exact hjs)
                                have HFX := Lib.hid hFX
                                have HBw := Lib.hid hBw
                                clear hRv hRO hFX hBw hzv hjs hwb w4 w5 hbB hwit hcl hgt hat2
                                generalize Ri[i] = z at *
                                obtain ⟨⟨ze, zat⟩, zA, zc⟩ := z
                                dsimp only at *
                                subst hA2
                                have hcI : (c0 : Int) < ((l.length + q.length : Nat) : Int) := by omega
                                have hcN : ¬ (c0 : Int) < 0 := by omega
                                have hcI2 : (c0 : Int) < (l.length : Int) + (q.length : Int) := by omega
                                have hcN2 : c0 < l.length + q.length := by omega
                                have D0 : Below wr.heap.size wr wr.drew := (Below.refl _ _).drew
                                have hkl := hkb.lt
                                have SB : ∀ W', Below wr.heap.size wr W' → (∀ j, W'.cell? ⟨W0.heap.size, j, none⟩ = (#[.int .i64 c0, .slice (some ⟨gA, 0, none⟩) (l.length + q.length) c2] : Array Value)[j]?) := fun W' hW => (hkb.below hW hkl).cell
                                have SS : ∀ W', Below wr.heap.size wr W' → ∀ (o1 o2 : Nat) (v1 v2 : Value), (∀ j, ((W'.setCell ⟨gR, o1, none⟩ v1).setCell ⟨gR, o2, none⟩ v2).cell? ⟨W0.heap.size, j, none⟩ = (#[.int .i64 c0, .slice (some ⟨gA, 0, none⟩) (l.length + q.length) c2] : Array Value)[j]?) := fun W' hW o1 o2 v1 v2 => (((hkb.below hW hkl).far (p := ⟨gR, o1, none⟩) (by show W0.heap.size ≠ gR; omega) v1).far (p := ⟨gR, o2, none⟩) (by show W0.heap.size ≠ gR; omega) v2).cell
                                go_upto_region 37 with fail
                                refine wp_region_held_drew (S := (fun W' => (∀ j, W'.cell? ⟨W0.heap.size, j, none⟩ = (#[.int .i64 c0, .slice (some ⟨gA, 0, none⟩) (l.length + q.length) c2] : Array Value)[j]?))) (by kernel_rfl) ?_ (fun hHeld => ?_)
                                · (try dsimp only); first | with_reducible exact SB _ D0 | with_reducible exact SB _ d2 | with_reducible exact SS _ d2 _ _ _ _
                                refine wpAnyH_take (i := 0) (v := ?_) rfl (by kernel_rfl) (by kernel_rfl) (by kernel_rfl) (fun _ _ _ h => h) (Or.inl ⟨by rfl, ?_⟩) (by assumption) ?_
                                case refine_2 => intro w hSw; (try dsimp only at hSw); go_simp; first | done | with_reducible rfl
                                try simp only [Act.put, List.setIfInBounds_toArray, List.set_cons_zero, List.set_cons_succ]
                                refine wpAnyH_take (i := 1) (v := ?_) rfl (by kernel_rfl) (by kernel_rfl) (by kernel_rfl) (fun _ _ _ h => h) (Or.inl ⟨by rfl, ?_⟩) (by assumption) ?_
                                case refine_2 => intro w hSw; (try dsimp only at hSw); go_simp; first | done | with_reducible rfl
                                try simp only [Act.put, List.setIfInBounds_toArray, List.set_cons_zero, List.set_cons_succ]
                                refine wpAnyH_take (i := 2) (v := ?_) rfl (by kernel_rfl) (by kernel_rfl) (by kernel_rfl) (fun _ _ _ h => h) (Or.inl ⟨by rfl, ?_⟩) (by assumption) ?_
                                case refine_2 => intro w hSw; (try dsimp only at hSw); go_simp; first | done | with_reducible rfl
                                try simp only [Act.put, List.setIfInBounds_toArray, List.set_cons_zero, List.set_cons_succ]
                                refine wpAnyH_take (i := 3) (v := ?_) rfl (by kernel_rfl) (by kernel_rfl) (by kernel_rfl) (fun _ _ _ h => h) (Or.inl ⟨by rfl, ?_⟩) (by assumption) ?_
                                case refine_2 => intro w hSw; (try dsimp only at hSw); go_simp; first | done | with_reducible rfl
                                try simp only [Act.put, List.setIfInBounds_toArray, List.set_cons_zero, List.set_cons_succ]
                                refine wpAnyH_take (i := 4) (v := ?_) rfl (by kernel_rfl) (by kernel_rfl) (by kernel_rfl) (fun _ _ _ h => h) (Or.inl ⟨by rfl, ?_⟩) (by assumption) ?_
                                case refine_2 => intro w hSw; (try dsimp only at hSw); go_simp; first | done | with_reducible rfl
                                try simp only [Act.put, List.setIfInBounds_toArray, List.set_cons_zero, List.set_cons_succ]
                                refine wpAnyH_take (i := 6) (v := ?_) rfl (by kernel_rfl) (by kernel_rfl) (by kernel_rfl) (fun _ _ _ h => h) (Or.inl ⟨by rfl, ?_⟩) (by assumption) ?_
                                case refine_2 => intro w hSw; (try dsimp only at hSw); go_simp; first | done | with_reducible rfl
                                try simp only [Act.put, List.setIfInBounds_toArray, List.set_cons_zero, List.set_cons_succ]
                                refine wpAnyH_take (i := 7) (v := ?_) rfl (by kernel_rfl) (by kernel_rfl) (by kernel_rfl) (fun _ _ _ h => h) (Or.inl ⟨by rfl, ?_⟩) (by assumption) ?_
                                case refine_2 => intro w hSw; (try dsimp only at hSw); go_simp; first | done | with_reducible rfl
                                try simp only [Act.put, List.setIfInBounds_toArray, List.set_cons_zero, List.set_cons_succ]
                                refine wpAnyH_take (i := 8) (v := ?_) rfl (by kernel_rfl) (by kernel_rfl) (by kernel_rfl) (fun _ _ _ h => h) (Or.inl ⟨by rfl, ?_⟩) (by assumption) ?_
                                case refine_2 => intro w hSw; (try dsimp only at hSw); go_simp; first | done | with_reducible rfl
                                try simp only [Act.put, List.setIfInBounds_toArray, List.set_cons_zero, List.set_cons_succ]
                                refine wpAnyH_take (i := 9) (v := ?_) rfl (by kernel_rfl) (by kernel_rfl) (by kernel_rfl) (fun _ _ _ h => h) (Or.inl ⟨by rfl, ?_⟩) (by assumption) ?_
                                case refine_2 => intro w hSw; (try dsimp only at hSw); go_simp; first | done | with_reducible rfl
                                try simp only [Act.put, List.setIfInBounds_toArray, List.set_cons_zero, List.set_cons_succ]
                                refine wpAnyH_take (i := 10) (v := ?_) rfl (by kernel_rfl) (by kernel_rfl) (by kernel_rfl) (fun _ _ _ h => h) (Or.inl ⟨by rfl, ?_⟩) (by assumption) ?_
                                case refine_2 => intro w hSw; (try dsimp only at hSw); go_simp; first | done | with_reducible rfl
                                try simp only [Act.put, List.setIfInBounds_toArray, List.set_cons_zero, List.set_cons_succ]
                                refine wpAnyH_take (i := 12) (v := ?_) rfl (by kernel_rfl) (by kernel_rfl) (by kernel_rfl) (fun _ _ _ h => h) (Or.inl ⟨by rfl, ?_⟩) (by assumption) ?_
                                case refine_2 => intro w hSw; (try dsimp only at hSw); go_simp; first | done | with_reducible rfl
                                try simp only [Act.put, List.setIfInBounds_toArray, List.set_cons_zero, List.set_cons_succ]
                                refine wpAnyH_take (i := 13) (v := ?_) rfl (by kernel_rfl) (by kernel_rfl) (by kernel_rfl) (fun _ _ _ h => h) (Or.inl ⟨by rfl, ?_⟩) (by assumption) ?_
                                case refine_2 => intro w hSw; (try dsimp only at hSw); go_simp; first | done | with_reducible rfl
                                try simp only [Act.put, List.setIfInBounds_toArray, List.set_cons_zero, List.set_cons_succ]
                                refine wpAnyH_ready (rs := [5, 11]) (by kernel_rfl) (by simp) ?_
                                refine AllReadyH.cons rfl (fun K hK => ?_) ?_
                                · go_simp
                                  refine hK.out _ _ ?_ (fun hHeld => ?_)
                                  · (try dsimp only); first | with_reducible exact SB _ D0 | with_reducible exact SB _ d2 | with_reducible exact SS _ d2 _ _ _ _
                                  clear hK K
                                  try simp only [Act.put, List.setIfInBounds_toArray, List.set_cons_zero, List.set_cons_succ]
                                  refine wpAnyH_ready (rs := [11]) (by kernel_rfl) (by simp) ?_
                                  refine AllReadyH.cons rfl (fun K hK => ?_) ?_
                                  · go_simp
                                    refine hK.out _ _ ?_ (fun hHeld => ?_)
                                    · (try dsimp only); first | with_reducible exact SB _ D0 | with_reducible exact SB _ d2 | with_reducible exact SS _ d2 _ _ _ _
                                    clear hK K
                                    try simp only [Act.put, List.setIfInBounds_toArray, List.set_cons_zero, List.set_cons_succ]
                                    refine wpAnyH_take (i := 14) (v := ?_) rfl (by kernel_rfl) (by kernel_rfl) (by kernel_rfl) (fun _ _ _ h => h) (Or.inl ⟨by rfl, ?_⟩) (by assumption) ?_
                                    case refine_2 => intro w hSw; (try dsimp only at hSw); go_simp; first | done | with_reducible rfl
                                    try simp only [Act.put, List.setIfInBounds_toArray, List.set_cons_zero, List.set_cons_succ]
                                    refine wpAnyH_ready (rs := [15]) (by kernel_rfl) (by simp) ?_
                                    refine AllReadyH.cons rfl (fun K hK => ?_) ?_
                                    · go_simp
                                      refine hK.out _ _ ?_ (fun hHeld => ?_)
                                      · (try dsimp only); first | with_reducible exact SB _ D0 | with_reducible exact SB _ d2 | with_reducible exact SS _ d2 _ _ _ _
                                      clear hK K
                                      try simp only [Act.put, List.setIfInBounds_toArray, List.set_cons_zero, List.set_cons_succ]
                                      refine wpAnyH_ready (rs := [16]) (by kernel_rfl) (by simp) ?_
                                      refine AllReadyH.cons rfl (fun K hK => ?_) ?_
                                      · go_simp
                                        go_at_call 81; (with_reducible refine (hLs.out).mono ?_); rintro e6 w6 ⟨A6, c6, rfl, ho6, h6⟩; have HO6 := Lib.hid ho6; have d2 := D0.trans h6; obtain ⟨y0, y1, fz⟩ := HRs6.out w6 d2
                                        go_wp2_with fail
                                        refine hK.out _ _ ?_ (fun hHeld => ?_)
                                        · (try dsimp only); first | with_reducible exact SB _ D0 | with_reducible exact SB _ d2 | with_reducible exact SS _ d2 _ _ _ _
                                        clear hK K
                                        try simp only [Act.put, List.setIfInBounds_toArray, List.set_cons_zero, List.set_cons_succ]
                                        refine wpAnyH_take (i := 17) (v := ?_) rfl (by kernel_rfl) (by kernel_rfl) (by kernel_rfl) (fun _ _ _ h => h) (Or.inl ⟨by rfl, ?_⟩) (by assumption) ?_
                                        case refine_2 => intro w hSw; (try dsimp only at hSw); go_simp; first | done | with_reducible rfl
                                        try simp only [Act.put, List.setIfInBounds_toArray, List.set_cons_zero, List.set_cons_succ]
                                        refine wpAnyH_ready (rs := [18]) (by kernel_rfl) (by simp) ?_
                                        refine AllReadyH.cons rfl (fun K hK => ?_) ?_
                                        · go_simp
                                          refine hK.out _ _ ?_ (fun hHeld => ?_)
                                          · (try dsimp only); first | with_reducible exact SB _ D0 | with_reducible exact SB _ d2 | with_reducible exact SS _ d2 _ _ _ _
                                          clear hK K
                                          try simp only [Act.put, List.setIfInBounds_toArray, List.set_cons_zero, List.set_cons_succ]
                                          refine wpAnyH_done (by kernel_rfl) ?_ _
                                          have HP6 := Lib.hid (HPut.out w6 d2 A6 c6 (FlatP.of_own (c := c6) frcC_len (by decide) HO6.out (fun b h1 _ _ => h1)) (own_capQ HO6.out))
                                          rw [hzl] at HP6
                                          have HK6 := Lib.hid (((hkb.below d2 hkl).far (p := ⟨gR, i * 2, none⟩) (by show W0.heap.size ≠ gR; omega) (.int .i64 zat)).far (p := ⟨gR, i * 2 + 1, none⟩) (by show W0.heap.size ≠ gR; omega) (.slice A6 (l.length + q.length) c6))
                                          have HX6 := Lib.hid ((HFX.out.move ((Fr.below d2).trans ((Fr.set (p := ⟨gR, i * 2, none⟩) (fun e => e rfl) (.int .i64 zat)).trans (Fr.set (p := ⟨gR, i * 2 + 1, none⟩) (fun e => e rfl) (.slice A6 (l.length + q.length) c6))))))
                                          have HB6 := Lib.hid ((HBw.out.trans (d2.mono HBw.out.size)).setCell (p := ⟨gR, i * 2, none⟩) hgB (.int .i64 zat) |>.setCell (p := ⟨gR, i * 2 + 1, none⟩) hgB (.slice A6 (l.length + q.length) c6))
                                          have HZ6 : Hid (W0.heap.size ≤ ((w6.setCell ⟨gR, i * 2, none⟩ (.int .i64 zat)).setCell ⟨gR, i * 2 + 1, none⟩ (.slice A6 (l.length + q.length) c6)).heap.size) := Lib.hid (by simp only [World.size_setCell]; have := d2.size; omega)
                                          clear SB SS x0 x1 y0 y1 r0 r1 fz hkb d2
                                          go_wp2_with fail
                                          go_roundw
                                          all_goals first
                                            | (simp [vInt]; omega; done)
                                            | (simp [vInt]; done)
                                            | exact ⟨i + 1, by omega, by go_num, Lib.hid ⟨_, by rw [List.map_set]; exact HSet.out, by rw [List.length_set]; exact hRl, HP6.out, HK6.out, HX6.out, HZ6.out, HB6.out⟩⟩
                                        exact AllReadyH.nil
                                      exact AllReadyH.nil
                                    exact AllReadyH.nil
                                  exact AllReadyH.nil
                                refine AllReadyH.cons rfl (fun K hK => ?_) ?_
                                · go_simp
                                  refine hK.out _ _ ?_ (fun hHeld => ?_)
                                  · (try dsimp only); first | with_reducible exact SB _ D0 | with_reducible exact SB _ d2 | with_reducible exact SS _ d2 _ _ _ _
                                  clear hK K
                                  try simp only [Act.put, List.setIfInBounds_toArray, List.set_cons_zero, List.set_cons_succ]
                                  refine wpAnyH_take (i := 14) (v := ?_) rfl (by kernel_rfl) (by kernel_rfl) (by kernel_rfl) (fun _ _ _ h => h) (Or.inl ⟨by rfl, ?_⟩) (by assumption) ?_
                                  case refine_2 => intro w hSw; (try dsimp only at hSw); go_simp; first | done | with_reducible rfl
                                  try simp only [Act.put, List.setIfInBounds_toArray, List.set_cons_zero, List.set_cons_succ]
                                  refine wpAnyH_ready (rs := [5, 15]) (by kernel_rfl) (by simp) ?_
                                  refine AllReadyH.cons rfl (fun K hK => ?_) ?_
                                  · go_simp
                                    refine hK.out _ _ ?_ (fun hHeld => ?_)
                                    · (try dsimp only); first | with_reducible exact SB _ D0 | with_reducible exact SB _ d2 | with_reducible exact SS _ d2 _ _ _ _
                                    clear hK K
                                    try simp only [Act.put, List.setIfInBounds_toArray, List.set_cons_zero, List.set_cons_succ]
                                    refine wpAnyH_ready (rs := [15]) (by kernel_rfl) (by simp) ?_
                                    refine AllReadyH.cons rfl (fun K hK => ?_) ?_
                                    · go_simp
                                      refine hK.out _ _ ?_ (fun hHeld => ?_)
                                      · (try dsimp only); first | with_reducible exact SB _ D0 | with_reducible exact SB _ d2 | with_reducible exact SS _ d2 _ _ _ _
                                      clear hK K
                                      try simp only [Act.put, List.setIfInBounds_toArray, List.set_cons_zero, List.set_cons_succ]
                                      refine wpAnyH_ready (rs := [16]) (by kernel_rfl) (by simp) ?_
                                      refine AllReadyH.cons rfl (fun K hK => ?_) ?_
                                      · go_simp
                                        go_at_call 81; (with_reducible refine (hLs.out).mono ?_); rintro e6 w6 ⟨A6, c6, rfl, ho6, h6⟩; have HO6 := Lib.hid ho6; have d2 := D0.trans h6; obtain ⟨y0, y1, fz⟩ := HRs6.out w6 d2
                                        go_wp2_with fail
                                        refine hK.out _ _ ?_ (fun hHeld => ?_)
                                        · (try dsimp only); first | with_reducible exact SB _ D0 | with_reducible exact SB _ d2 | with_reducible exact SS _ d2 _ _ _ _
                                        clear hK K
                                        try simp only [Act.put, List.setIfInBounds_toArray, List.set_cons_zero, List.set_cons_succ]
                                        refine wpAnyH_take (i := 17) (v := ?_) rfl (by kernel_rfl) (by kernel_rfl) (by kernel_rfl) (fun _ _ _ h => h) (Or.inl ⟨by rfl, ?_⟩) (by assumption) ?_
                                        case refine_2 => intro w hSw; (try dsimp only at hSw); go_simp; first | done | with_reducible rfl
                                        try simp only [Act.put, List.setIfInBounds_toArray, List.set_cons_zero, List.set_cons_succ]
                                        refine wpAnyH_ready (rs := [18]) (by kernel_rfl) (by simp) ?_
                                        refine AllReadyH.cons rfl (fun K hK => ?_) ?_
                                        · go_simp
                                          refine hK.out _ _ ?_ (fun hHeld => ?_)
                                          · (try dsimp only); first | with_reducible exact SB _ D0 | with_reducible exact SB _ d2 | with_reducible exact SS _ d2 _ _ _ _
                                          clear hK K
                                          try simp only [Act.put, List.setIfInBounds_toArray, List.set_cons_zero, List.set_cons_succ]
                                          refine wpAnyH_done (by kernel_rfl) ?_ _
                                          have HP6 := Lib.hid (HPut.out w6 d2 A6 c6 (FlatP.of_own (c := c6) frcC_len (by decide) HO6.out (fun b h1 _ _ => h1)) (own_capQ HO6.out))
                                          rw [hzl] at HP6
                                          have HK6 := Lib.hid (((hkb.below d2 hkl).far (p := ⟨gR, i * 2, none⟩) (by show W0.heap.size ≠ gR; omega) (.int .i64 zat)).far (p := ⟨gR, i * 2 + 1, none⟩) (by show W0.heap.size ≠ gR; omega) (.slice A6 (l.length + q.length) c6))
                                          have HX6 := Lib.hid ((HFX.out.move ((Fr.below d2).trans ((Fr.set (p := ⟨gR, i * 2, none⟩) (fun e => e rfl) (.int .i64 zat)).trans (Fr.set (p := ⟨gR, i * 2 + 1, none⟩) (fun e => e rfl) (.slice A6 (l.length + q.length) c6))))))
                                          have HB6 := Lib.hid ((HBw.out.trans (d2.mono HBw.out.size)).setCell (p := ⟨gR, i * 2, none⟩) hgB (.int .i64 zat) |>.setCell (p := ⟨gR, i * 2 + 1, none⟩) hgB (.slice A6 (l.length + q.length) c6))
                                          have HZ6 : Hid (W0.heap.size ≤ ((w6.setCell ⟨gR, i * 2, none⟩ (.int .i64 zat)).setCell ⟨gR, i * 2 + 1, none⟩ (.slice A6 (l.length + q.length) c6)).heap.size) := Lib.hid (by simp only [World.size_setCell]; have := d2.size; omega)
                                          clear SB SS x0 x1 y0 y1 r0 r1 fz hkb d2
                                          go_wp2_with fail
                                          go_roundw
                                          all_goals first
                                            | (simp [vInt]; omega; done)
                                            | (simp [vInt]; done)
                                            | exact ⟨i + 1, by omega, by go_num, Lib.hid ⟨_, by rw [List.map_set]; exact HSet.out, by rw [List.length_set]; exact hRl, HP6.out, HK6.out, HX6.out, HZ6.out, HB6.out⟩⟩
                                        exact AllReadyH.nil
                                      exact AllReadyH.nil
                                    exact AllReadyH.nil
                                  refine AllReadyH.cons rfl (fun K hK => ?_) ?_
                                  · go_simp
                                    refine hK.out _ _ ?_ (fun hHeld => ?_)
                                    · (try dsimp only); first | with_reducible exact SB _ D0 | with_reducible exact SB _ d2 | with_reducible exact SS _ d2 _ _ _ _
                                    clear hK K
                                    try simp only [Act.put, List.setIfInBounds_toArray, List.set_cons_zero, List.set_cons_succ]
                                    refine wpAnyH_ready (rs := [5]) (by kernel_rfl) (by simp) ?_
                                    refine AllReadyH.cons rfl (fun K hK => ?_) ?_
                                    · go_simp
                                      refine hK.out _ _ ?_ (fun hHeld => ?_)
                                      · (try dsimp only); first | with_reducible exact SB _ D0 | with_reducible exact SB _ d2 | with_reducible exact SS _ d2 _ _ _ _
                                      clear hK K
                                      try simp only [Act.put, List.setIfInBounds_toArray, List.set_cons_zero, List.set_cons_succ]
                                      refine wpAnyH_ready (rs := [16]) (by kernel_rfl) (by simp) ?_
                                      refine AllReadyH.cons rfl (fun K hK => ?_) ?_
                                      · go_simp
                                        go_at_call 81; (with_reducible refine (hLs.out).mono ?_); rintro e6 w6 ⟨A6, c6, rfl, ho6, h6⟩; have HO6 := Lib.hid ho6; have d2 := D0.trans h6; obtain ⟨y0, y1, fz⟩ := HRs6.out w6 d2
                                        go_wp2_with fail
                                        refine hK.out _ _ ?_ (fun hHeld => ?_)
                                        · (try dsimp only); first | with_reducible exact SB _ D0 | with_reducible exact SB _ d2 | with_reducible exact SS _ d2 _ _ _ _
                                        clear hK K
                                        try simp only [Act.put, List.setIfInBounds_toArray, List.set_cons_zero, List.set_cons_succ]
                                        refine wpAnyH_take (i := 17) (v := ?_) rfl (by kernel_rfl) (by kernel_rfl) (by kernel_rfl) (fun _ _ _ h => h) (Or.inl ⟨by rfl, ?_⟩) (by assumption) ?_
                                        case refine_2 => intro w hSw; (try dsimp only at hSw); go_simp; first | done | with_reducible rfl
                                        try simp only [Act.put, List.setIfInBounds_toArray, List.set_cons_zero, List.set_cons_succ]
                                        refine wpAnyH_ready (rs := [18]) (by kernel_rfl) (by simp) ?_
                                        refine AllReadyH.cons rfl (fun K hK => ?_) ?_
                                        · go_simp
                                          refine hK.out _ _ ?_ (fun hHeld => ?_)
                                          · (try dsimp only); first | with_reducible exact SB _ D0 | with_reducible exact SB _ d2 | with_reducible exact SS _ d2 _ _ _ _
                                          clear hK K
                                          try simp only [Act.put, List.setIfInBounds_toArray, List.set_cons_zero, List.set_cons_succ]
                                          refine wpAnyH_done (by kernel_rfl) ?_ _
                                          have HP6 := Lib.hid (HPut.out w6 d2 A6 c6 (FlatP.of_own (c := c6) frcC_len (by decide) HO6.out (fun b h1 _ _ => h1)) (own_capQ HO6.out))
                                          rw [hzl] at HP6
                                          have HK6 := Lib.hid (((hkb.below d2 hkl).far (p := ⟨gR, i * 2, none⟩) (by show W0.heap.size ≠ gR; omega) (.int .i64 zat)).far (p := ⟨gR, i * 2 + 1, none⟩) (by show W0.heap.size ≠ gR; omega) (.slice A6 (l.length + q.length) c6))
                                          have HX6 := Lib.hid ((HFX.out.move ((Fr.below d2).trans ((Fr.set (p := ⟨gR, i * 2, none⟩) (fun e => e rfl) (.int .i64 zat)).trans (Fr.set (p := ⟨gR, i * 2 + 1, none⟩) (fun e => e rfl) (.slice A6 (l.length + q.length) c6))))))
                                          have HB6 := Lib.hid ((HBw.out.trans (d2.mono HBw.out.size)).setCell (p := ⟨gR, i * 2, none⟩) hgB (.int .i64 zat) |>.setCell (p := ⟨gR, i * 2 + 1, none⟩) hgB (.slice A6 (l.length + q.length) c6))
                                          have HZ6 : Hid (W0.heap.size ≤ ((w6.setCell ⟨gR, i * 2, none⟩ (.int .i64 zat)).setCell ⟨gR, i * 2 + 1, none⟩ (.slice A6 (l.length + q.length) c6)).heap.size) := Lib.hid (by simp only [World.size_setCell]; have := d2.size; omega)
                                          clear SB SS x0 x1 y0 y1 r0 r1 fz hkb d2
                                          go_wp2_with fail
                                          go_roundw
                                          all_goals first
                                            | (simp [vInt]; omega; done)
                                            | (simp [vInt]; done)
                                            | exact ⟨i + 1, by omega, by go_num, Lib.hid ⟨_, by rw [List.map_set]; exact HSet.out, by rw [List.length_set]; exact hRl, HP6.out, HK6.out, HX6.out, HZ6.out, HB6.out⟩⟩
                                        exact AllReadyH.nil
                                      exact AllReadyH.nil
                                    exact AllReadyH.nil
                                  exact AllReadyH.nil
                                exact AllReadyH.nil
                              · have hil : ¬ (i : Int) < (Rs.length : Int) := by omega
                                obtain rfl : i = Rs.length := by omega
                                have hja : Ri.map RowD.v ++ [leadE e] = joinL (Rs.map RowD.v) (leadE e) := by rw [hRv, ← joinV_all, List.length_map]
                                have HJa := Lib.hid hja
                                have kbc := hkb.cell
                                have bL := (Below.refl wr.heap.size wr).alloc (Nat.le_refl _) (.cells #[.int .i64 c0, .slice (some ⟨gA, 0, none⟩) (l.length + q.length) c2] 98)
                                have HOL := Lib.hid (hRO.later bL)
                                have hoL := Lib.hid (hRO.later bL).1
                                rw [hRl] at hoL
                                have HXL := Lib.hid (hFX.move (Fr.below bL))
                                have HBL := Lib.hid (hBw.trans (bL.mono hBw.size))
                                have hnw := Lib.hid (fun j u (hj : (rowC ⟨leadE e, some ⟨gA, 0, none⟩, c2⟩)[j]? = some u) => show (wr.alloc (.cells #[.int .i64 c0, .slice (some ⟨gA, 0, none⟩) (l.length + q.length) c2] 98)).cell? ((⟨wr.heap.size, 0, none⟩ : Addr).add j) = some u by
                                  rw [WideShapes.add_plain, Nat.zero_add]
                                  refine ((Blk.new wr _ _).cell j).trans ?_
                                  rw [← hj]
                                  unfold rowC
                                  rw [HJ.out.2.2.2, hXl]
                                  simp)
                                have hBz := hBw.size
                                have HRl := Lib.hid hRl
                                clear hRO hFX hBw hja hRv bL hkb hRl
                                go_wp2_with (at_builtin; refine wpList_append_own_at _ rfl _ _ 92 rfl w.heap.size 98 i5 _ 2 32 Tryz.underlying92 hi5 hp0 hp1 hp2 rfl (by decide) _ _ _ rfl hoL.out ⟨wr.heap.size, 0, none⟩ 1 1 (rowC ⟨leadE e, some ⟨gA, 0, none⟩, c2⟩) rfl rfl hnw.out (rowC_one _) (by unfold maxLen; omega) (by omega) (by simp; omega) ?_; intro v' w4 hown4 hg4 _ hat4; obtain ⟨A9, c9, rfl⟩ := own_slice hown4; have HN9 := Lib.hid (rows_snoc (x := ⟨leadE e, some ⟨gA, 0, none⟩, c2⟩) (A' := A9) (c' := c9) HOL.out (by rw [HRl.out]; exact HXL.out) HC2.out (by rw [HRl.out]; exact hg4) (by rw [HRl.out]; rcases hat4 with h9 | h9; exact .inl h9; exact .inr ⟨_, h9, Nat.le_refl _⟩) (by rw [HRl.out]; exact hown4)); have HB9 := Lib.hid (HBL.out.grown hg4 HBL.out.size (fun b hb => (hoL.out.lt b hb).1)))
                                go_roundw
                                case rel => exact ⟨k + 1, A9, c9, Ri ++ [⟨leadE e, some ⟨gA, 0, none⟩, c2⟩], HKl.out, by rw [List.length_append, HRl.out]; rfl, by go_num, Lib.hid ⟨HN9.out, by rw [List.map_append, HJ.out.2.1, ← HJa.out]; rfl, HB9.out⟩⟩
                                case measure => have := HKl.out; first | (simp [vInt]; done) | (simp [vInt]; omega)
                    · obtain ⟨p, rfl⟩ : ∃ p, i = p + 1 := ⟨i - 1, by omega⟩
                      have hmi : ((p + 1 : Nat) : Int) - 1 = (p : Int) := by omega
                      rw [hmi]
                      have hpl : p < l.length := by omega
                      have hst := fnd_step (l := e.fs) (i := p) (by omega)
                      obtain ⟨bA, oA, hA2, hbA, x0, x1⟩ := frc_at hS.frc (k := p) (by omega)
                      subst hA2
                      have hgp := HGet.out p hpl
                      rw [getD_lt _ _ (by omega), getD_lt _ _ (by omega)] at hgp
                      have hok := HRo.out _ (List.getElem_mem (by omega : p < (rowL e).length))
                      have hsm := some_n hok
                      rw [hgp] at x0 x1 hsm
                      generalize e.fs[p] = fx at *
                      have hpI : (p : Int) < ((l.length + q.length : Nat) : Int) := by omega
                      have hp0 : ¬ (p : Int) < 0 := by omega
                      have kc := hS.blk.cell
                      have kf := hS.blk.free
                      rw [hEl] at kc
                      have HS := Lib.hid hS
                      clear hS hgp hok
                      cases hn : (fx.n != 0) with
                      | true =>
                        rw [hn] at hsm
                        rw [hsm, if_pos rfl] at hst
                        have HT := Lib.hid hst
                        clear hst hsm
                        go_wp2_with fail
                        go_roundw
                        case rel => exact ⟨p, by omega, by go_num, Lib.hid ⟨_, c2, by rw [HT.out]; exact HS.out.lead (p : Int)⟩⟩
                        case measure => first | (simp [vInt]; done) | (simp [vInt]; omega)
                      | false =>
                        rw [hn] at hsm
                        rw [hsm, if_neg (by decide)] at hst
                        have HT := Lib.hid hst
                        clear hst hsm
                        go_wp2_with fail
                        go_roundw
                        case rel => exact ⟨p, by omega, by go_num, Lib.hid ⟨_, c2, by rw [HT.out]; exact HS.out⟩⟩
                        case measure => first | (simp [vInt]; done) | (simp [vInt]; omega)
    · have hkl : ¬ (k : Int) < (q.length : Int) := by omega
      obtain rfl : k = q.length := by omega
      have HO := Lib.hid hO
      clear hO
      go_wp2_with fail
      go_ret
      exact ⟨R, c, Rs, rfl, HO, hV, hB⟩
end Go.Proofs.YtbkekdbabkncfaaGreat
