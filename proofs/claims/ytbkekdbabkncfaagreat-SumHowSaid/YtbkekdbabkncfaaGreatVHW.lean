/- The law on How. Written by vhw.py. -/
import Derived.Test.YtbkekdbabkncfaaGreatV5
import Derived.Test.YtbkekdbabkncfaaGreatVAl

namespace Go.Proofs.YtbkekdbabkncfaaGreat
open Go.RowKit Go.Maps
set_option maxRecDepth 100000 in
set_option maxHeartbeats 16000000 in
theorem sumHow_any (columns : Int) (l : List SubD) (A : Option Addr) (c : Nat) (q : List QueD) (Q : Option Addr) (qc : Nat) (k : Int) (w : World) (h : SubsAt w w.heap.size A l) (hm : ∀ x ∈ l, x.v.vals.length ≤ maxLen) (hq : QuesAt w w.heap.size Q q) (hqw : ∀ x ∈ q, x.v.wheres.length ≤ maxLen) (hk : 0 ≤ k ∧ k ≤ 255) :
    Calls Tryz.prog 8 #[.int .i64 columns, .slice A l.length c, .slice Q q.length qc, .int .u8 k] w fun e w' => e = .returned (.bool true) ∧ Below w.heap.size w w' := by
  have b1 := Below.refl w.heap.size w
  have HAl := Lib.hid (fun W' => alive_any W')
  have HR1 := Lib.hid (fun (W' : World) (hb : Below w.heap.size w W') => ready_any columns l A c q Q qc W' (h.later hb) hm (hq.later hb) hqw)
  cases hr1 : rdyB columns l q with
  | false =>
    rw [hr1] at HR1
    clear h hm hq hqw hr1
    go_enter Tryz.func8, Tryz.ntmps8
    go_wp2_with (first
      | (go_at_call 12; (with_reducible refine (HAl.out _).mono ?_); rintro e w1 ⟨rfl, h1⟩; have b2 := b1.trans (h1.mono b1.size))
      | (go_at_call 34; (with_reducible refine (HR1.out _ b2).mono ?_); rintro e w4 ⟨rfl, h4⟩; have b4 := b2.trans (h4.mono b2.size)))
    go_ret
    exact ⟨rfl, b4⟩
  | true =>
    rw [hr1] at HR1
    obtain ⟨hgr, htb, hav⟩ := rdy_parts hr1
    by_cases hn0 : l.length = 0
    · have hz : ((l.length : Int) == 0) = true := by rw [hn0]; rfl
      clear h hm hq hqw hr1 hgr htb hav hn0
      go_enter Tryz.func8, Tryz.ntmps8
      go_wp2_with (first
        | (go_at_call 12; (with_reducible refine (HAl.out _).mono ?_); rintro e w1 ⟨rfl, h1⟩; have b2 := b1.trans (h1.mono b1.size))
        | (go_at_call 34; (with_reducible refine (HR1.out _ b2).mono ?_); rintro e w4 ⟨rfl, h4⟩; have b4 := b2.trans (h4.mono b2.size)))
      go_ret
      exact ⟨rfl, b4⟩
    · have hne : ((l.length : Int) == 0) = false := by rw [beq_eq_false_iff_ne]; omega
      have hnI : ¬ ((l.length : Int) = 0) := by omega
      obtain ⟨kn, hkn⟩ : ∃ kn : Nat, k.tmod (l.length : Int) = kn := ⟨(k.tmod (l.length : Int)).toNat, (Int.toNat_of_nonneg (Int.tmod_nonneg (l.length : Int) hk.1)).symm⟩
      have hkl : kn < l.length := by
        have := Int.tmod_lt_of_pos k (show (0 : Int) < l.length by omega)
        rw [hkn] at this
        omega
      have hkI : (kn : Int) < (l.length : Int) := by omega
      have hcv : IntKind.i64.wrap k = k := IntWalk.i64_in _ (by omega)
      obtain ⟨b, off, rfl, hb, c00, c01, _⟩ := subs_at h hkl
      have hx : l[kn] ∈ l := List.getElem_mem hkl
      obtain ⟨ol, ho⟩ := srt_some l
      have hrd := fun (W' : World) (hb' : Below w.heap.size w W') => (Rdy.mk (columns := columns) (h.later hb') hm htb (hq.later hb') hqw hav)
      by_cases hF : FollowAt (ledR ol q) (befN l l[kn].v.id)
      · have HHo := Lib.hid (fun (W' : World) (hb' : Below w.heap.size w W') => (hrd W' hb').how_full (c := c) (sc := qc) ho hx hF)
        have hR0 := hrd w (Below.refl _ _)
        have HSp := Lib.hid (how_spec hR0 ho hx hF)
        have HSm := Lib.hid (how_sums (tab_ids htb) hav hx HSp.out.2.2.2.2.2)
        have HAs := Lib.hid (fun (x : SubD) (hx : x ∈ l) (y : QueD) (hy : y ∈ q) => hR0.asked hx hy)
        have HCn := Lib.hid (fun (y : QueD) (hy : y ∈ q) => hR0.counts hx hy)
        have HH := Lib.hid h
        have HQ := Lib.hid hq
        have HM := Lib.hid hm
        have HQw := Lib.hid hqw
        have HTb := Lib.hid htb
        have HAv := Lib.hid (avl_parts hav).2
        have HQ0 : Hid (∀ hq0 : 0 < q.length, q0L q = q[0].v) := Lib.hid (fun hq0 => by cases q with | nil => simp at hq0 | cons y r => rfl)
        have hl16 := hR0.l16
        have hq8 := hR0.q8
        clear hR0
        generalize howN ol q (befN l l[kn].v.id) = P at *
        generalize howW ol q (befN l l[kn].v.id) = M at *
        have hPl : P.length = q.length := HSp.out.1
        have hPn : ((P.length : Int) != (q.length : Int)) = false := by rw [hPl]; simp
        have hM1 : ¬ M < 1 := by have := HSp.out.2.2.1; omega
        have hq0z : ((q.length : Int) == 0) = false := by have := HSp.out.2.1; rw [beq_eq_false_iff_ne]; omega
        obtain ⟨i4, hi4, hq40, hq41, hq42⟩ := info_parts intInfoW
        have hlen1 : (M :: P).length = 1 + q.length := by rw [List.length_cons, hPl]; omega
        have HPb := Lib.hid (⟨HSp.out.2.2.2.1, HSp.out.2.2.1⟩ : (∀ y ∈ P, -1700000000 ≤ y ∧ y ≤ 1700000000) ∧ 1 ≤ M ∧ M ≤ 40320)
        have HCo := Lib.hid (fun (W' : World) (X : Option Addr) (xc : Nat) (hX : IntsAt W' W'.heap.size X (M :: P)) => common10_any (M :: P) X xc W' hX (fun x hx => by
          rcases List.mem_cons.1 hx with rfl | hx
          · have := HPb.out.2; omega
          · have := HPb.out.1 x hx; omega) (by rw [hlen1]; omega))
        rw [HSp.out.2.2.2.2.1, hlen1] at HCo
        go_enter Tryz.func8, Tryz.ntmps8
        go_upto_region 10 with (first
          | (go_at_call 12; (with_reducible refine (HAl.out _).mono ?_); rintro e w1 ⟨rfl, h1⟩; have b2 := b1.trans (h1.mono b1.size))
          | (go_at_call 34; (with_reducible refine (HR1.out _ b2).mono ?_); rintro e w4 ⟨rfl, h4⟩; have b4 := b2.trans (h4.mono b2.size); have cc0 := (b4.cell (p := ⟨b, off + kn * 2, none⟩) hb).trans c00; have cc1 := (b4.cell (p := ⟨b, off + kn * 2 + 1, none⟩) hb).trans c01; have bA := b4.alloc b4.size (.cells #[.int .i64 l[kn].v.id, .slice l[kn].V l[kn].v.vals.length l[kn].c] 56); have ko := Blk.new w4 #[.int .i64 l[kn].v.id, .slice l[kn].V l[kn].v.vals.length l[kn].c] 56)
          | (go_at_call 16; (with_reducible refine (HHo.out _ bA).mono ?_); rintro e w6 ⟨A6, c6, rfl, i6, y6⟩; have b6 := bA.trans (y6.mono bA.size); have ko6 := ko.below y6 ko.lt; have ko6c := ko6.cell))
        generalize l[kn].v.id = id at *
        have I6 := Lib.hid i6
        have HK := Lib.hid ko6
        have hown0 := World.ownsRow_lit (e := 3) (size := 1) (base := w6.heap.size) w6 #[.int .i64 M] 1 (Nat.le_refl _) (by decide) rfl
        have b60 := (Below.refl w6.heap.size w6).alloc (Nat.le_refl _) (.cells #[.int .i64 M] 3)
        have I60 := Lib.hid (i6.later b60)
        clear i6 ko ko6 ko6c b2 h1 h4 cc0 cc1 bA b4 y6 HHo HR1 HAl hrd hF hx ho hgr htb hav hr1 hm hq hqw h
        go_wp2_with (first
          | (at_builtin; refine wpList_append_srcW _ (by rfl) (.tmp 84) (.tmp 85) 32 rfl w6.heap.size 3 i4 _ 1 8 Tryz.underlying32 hi4 hq40 hq41 hq42 rfl (by decide) _ 1 [.int .i64 M] rfl hown0 A6 q.length c6 (P.flatMap intC) rfl (by rw [← hPl]; exact flat_len intC_len P) (by rintro rfl; have := I60.out.none_; omega) (Flat.news intC_len (by decide) I60.out) (flat_ones intC_one P) (by unfold maxLen; omega) (by omega) (by simp) ?_; intro v7 w7 hown7 hg7 _; obtain ⟨A7, c7, rfl⟩ := own_slice hown7; have b67 := b60.grown hg7 b60.size (fun k e => (hown0.lt k e).1); have I7 := Flat.of_own (c := c7) (l := M :: P) intC_len (by decide) (by rw [hlen1]; exact hown7))
          | (go_at_call 35; (with_reducible refine (HCo.out _ A7 c7 I7).mono ?_); rintro e w8 ⟨rfl, y8⟩))
        have HB7 := Lib.hid (b67.trans (y8.mono b67.size))
        have hb67 := b6.trans (HB7.out.mono b6.size)
        have HX0 := Lib.hid (Below.refl w8.heap.size w8)
        have HIP := Lib.hid (I6.out.later HB7.out)
        have HK8 := Lib.hid (HK.out.below HB7.out HK.out.lt)
        have HW8 := Lib.hid hb67
        clear I6 HK b67 y8 HB7 hb67 hown7 hg7 hown0 b60 I60 I7 b6 HCo hPn hq0z hM1
        go_loopw [97] (fun jj wr => ∃ j : Nat, j ≤ l.length ∧ jj = .int .i64 j ∧ Hid (Below w8.heap.size w8 wr)) (fun jj _ => l.length - (vInt jj).toNat)
        case atStart => exact ⟨0, Nat.zero_le _, rfl, HX0⟩
        case round =>
          obtain ⟨j, hj9, rfl, hR⟩ := hrel
          have hB := hR.out
          have bz := HW8.out.trans (hB.mono HW8.out.size)
          by_cases hlt : j < l.length
          · have hjl : (j : Int) < (l.length : Int) := by omega
            obtain ⟨b8, o8, hA8, hb8, c0, c1, _⟩ := subs_at (HH.out.later bz) hlt
            obtain ⟨rfl, rfl⟩ : b = b8 ∧ off = o8 := by simpa using hA8
            have hxm := List.getElem_mem hlt
            generalize l[j] = x at *
            have HAx := Lib.hid (HAs.out x hxm)
            have HMx := Lib.hid (HSp.out.2.2.2.2.2 x hxm)
            have HMb := Lib.hid (made_bd HPb.out.1 (q.map QueD.v) x.v)
            have kb := Blk.new wr #[.int .i64 x.v.id, .slice x.V x.v.vals.length x.c] 56
            have bA := (Below.refl wr.heap.size wr).alloc (Nat.le_refl _) (.cells #[.int .i64 x.v.id, .slice x.V x.v.vals.length x.c] 56)
            have HBA := Lib.hid (hB.trans (bA.mono hB.size))
            have HKb := Lib.hid kb
            clear hR hB bA kb bz hxm hA8
            go_wp2_with fail
            generalize hWA : wr.alloc (.cells #[.int .i64 x.v.id, .slice x.V x.v.vals.length x.c] 56) = W1 at *
            generalize hgA : wr.heap.size = gA at *
            clear hWA hgA
            go_loopw [16, 103] (fun nn kk wr => ∃ k : Nat, k ≤ q.length ∧ nn = .int .i64 (madeN P (q.map QueD.v) x.v k) ∧ kk = .int .i64 k ∧ Hid (Below W1.heap.size W1 wr)) (fun _ kk _ => q.length - (vInt kk).toNat)
            case atStart => exact ⟨0, Nat.zero_le _, rfl, rfl, Lib.hid (Below.refl _ _)⟩
            case round =>
              obtain ⟨k, hk9, rfl, rfl, hR⟩ := hrel
              have hB := hR.out
              have bz8 := HBA.out.trans (hB.mono HBA.out.size)
              have bz := HW8.out.trans (bz8.mono HW8.out.size)
              have kb := HKb.out.below hB HKb.out.lt
              by_cases hlt : k < q.length
              · have hql : (k : Int) < (q.length : Int) := by omega
                obtain ⟨b9, o9, rfl, hb9, d0, d1, d2, d3, _⟩ := ques_at (HQ.out.later bz) hlt
                obtain ⟨b6, o6, rfl, hb6, cN⟩ := ints_at (HIP.out.later bz8) (k := k) (by rw [hPl]; exact hlt)
                have hgk : (q.map QueD.v).getD k ⟨[], 0, 0, 0⟩ = q[k].v := by rw [getD_lt _ _ (by simpa using hlt), List.getElem_map]
                have hss : madeN P (q.map QueD.v) x.v (k + 1) = madeN P (q.map QueD.v) x.v k + if askB x.v q[k].v = true then P[k]'(by rw [hPl]; exact hlt) else 0 := by
                  simp only [madeN]
                  rw [hgk, getD_lt _ _ (by rw [hPl]; exact hlt)]
                have hm1 := HMb.out k
                have hm2 := HMb.out (k + 1)
                rw [hss] at hm2
                have HAy := Lib.hid (HAx.out q[k] (List.getElem_mem hlt))
                generalize (P[k]'(by rw [hPl]; exact hlt)) = pk at *
                generalize q[k] = y at *
                generalize madeN P (q.map QueD.v) x.v k = sn at *
                have kq := Blk.new wr #[.slice y.W y.v.wheres.length y.c, .int .i64 y.v.col, .int .i64 y.v.clip, .int .i64 y.v.step] 25
                have bB := (Below.refl wr.heap.size wr).alloc (Nat.le_refl _) (.cells #[.slice y.W y.v.wheres.length y.c, .int .i64 y.v.col, .int .i64 y.v.clip, .int .i64 y.v.step] 25)
                have bw9 := bz.trans (bB.mono bz.size)
                have bB1 := hB.trans (bB.mono hB.size)
                have kqc := kq.cell
                have kbc := (kb.below bB kb.lt).cell
                have HSn := Lib.hid hss
                clear hss hgk
                cases hask : askB x.v y.v with
                | false =>
                  rw [hask] at HAy HSn
                  rw [if_neg (by decide)] at HSn
                  go_wp2_with (go_at_call 32; (with_reducible refine (HAy.out _ bw9).mono ?_); rintro e x5 ⟨rfl, y5⟩)
                  go_roundw
                  case rel => exact ⟨k + 1, by omega, by rw [HSn.out, Int.add_zero], by go_num, Lib.hid (bB1.trans (y5.mono bB1.size))⟩
                  case measure => simp [vInt]; omega
                | true =>
                  rw [hask] at HAy HSn hm2
                  rw [if_pos rfl] at HSn hm2
                  have hwn : IntKind.i64.wrap (sn + pk) = sn + pk := IntWalk.i64_in _ (by omega)
                  go_wp2_with (go_at_call 32; (with_reducible refine (HAy.out _ bw9).mono ?_); rintro e x5 ⟨rfl, y5⟩; have cN6 := ((bB.trans (y5.mono bB.size)).cell (p := ⟨b6, o6 + k, none⟩) hb6).trans cN)
                  go_roundw
                  case rel => exact ⟨k + 1, by omega, by rw [HSn.out], by go_num, Lib.hid (bB1.trans (y5.mono bB1.size))⟩
                  case measure => simp [vInt]; omega
              · have hql : ¬ (k : Int) < (q.length : Int) := by omega
                obtain rfl : k = q.length := by omega
                rw [HMx.out]
                have kbc := kb.cell
                have kc := (HK8.out.below bz8 HK8.out.lt).cell
                by_cases hxi : x.v.id = id
                · rw [if_pos hxi]
                  have e1 : (x.v.id == id) = true := by simpa using hxi
                  have e2 : (x.v.id != id) = false := by simpa using hxi
                  clear hxi
                  go_wp2_with fail
                  go_roundw
                  case rel => exact ⟨j + 1, by omega, by go_num, Lib.hid bz8⟩
                  case measure => simp [vInt]; omega
                · rw [if_neg hxi]
                  have e1 : (x.v.id == id) = false := by simpa using hxi
                  have e2 : (x.v.id != id) = true := by simpa using hxi
                  clear hxi
                  go_wp2_with fail
                  go_roundw
                  case rel => exact ⟨j + 1, by omega, by go_num, Lib.hid bz8⟩
                  case measure => simp [vInt]; omega
          · have hjl : ¬ (j : Int) < (l.length : Int) := by omega
            obtain rfl : j = l.length := by omega
            have HBj := Lib.hid hB
            have HTs : Hid (∀ y ∈ q, askE columns (l.map SubD.v) ⟨y.v.wheres, y.v.col, y.v.clip, 1⟩ = 0 ∧ sumP columns (l.map SubD.v) ⟨y.v.wheres, y.v.col, y.v.clip, 1⟩ = sumN (l.map SubD.v) y.v ∧ 0 ≤ sumN (l.map SubD.v) y.v ∧ sumN (l.map SubD.v) y.v ≤ 16000000) := Lib.hid (fun y hy => by
              have h1 := sum_one HTb.out (HAv.out y hy)
              have h2 := sumN_bd HTb.out (HAv.out y hy)
              exact ⟨h1.1, h1.2, h2.1, h2.2⟩)
            have HPt := Lib.hid (part_bd (P := P) (l := l.map SubD.v) (qs := q.map QueD.v) HPb.out.1 (fun k hk => by
              have hk' : k < q.length := by simpa using hk
              have := (HTs.out q[k] (List.getElem_mem hk')).2.2
              rw [getD_lt _ _ hk, List.getElem_map]
              exact this))
            have hl24 : l.length ≤ maxLen := by unfold maxLen; omega
            have HSu := Lib.hid (fun (y : QueD) (hy : y ∈ q) (W' : World) (hb' : Below w.heap.size w W') => sumP_any columns l (some ⟨b, off, none⟩) c y.v.wheres y.v.col y.v.clip 1 y.W y.c W' (HH.out.later hb') hl24 HM.out ((HQ.out.each y hy).later hb') (HQw.out y hy))
            clear hR bz hl24
            go_wp2_with fail
            go_loopw [19, 142] (fun aa kk wr => ∃ k : Nat, k ≤ q.length ∧ aa = .int .i64 (partS P (l.map SubD.v) (q.map QueD.v) k) ∧ kk = .int .i64 k ∧ Hid (Below w8.heap.size w8 wr)) (fun _ kk _ => q.length - (vInt kk).toNat)
            case atStart => exact ⟨0, Nat.zero_le _, rfl, rfl, HBj⟩
            case round =>
              obtain ⟨k, hk9, rfl, rfl, hR⟩ := hrel
              have hB := hR.out
              have bz := HW8.out.trans (hB.mono HW8.out.size)
              by_cases hlt : k < q.length
              · have hql : (k : Int) < (q.length : Int) := by omega
                obtain ⟨b9, o9, rfl, hb9, d0, d1, d2, d3, _⟩ := ques_at (HQ.out.later bz) hlt
                obtain ⟨b6, o6, rfl, hb6, cN⟩ := ints_at (HIP.out.later hB) (k := k) (by rw [hPl]; exact hlt)
                have hgk : (q.map QueD.v).getD k ⟨[], 0, 0, 0⟩ = q[k].v := by rw [getD_lt _ _ (by simpa using hlt), List.getElem_map]
                have hss : partS P (l.map SubD.v) (q.map QueD.v) (k + 1) = partS P (l.map SubD.v) (q.map QueD.v) k + (P[k]'(by rw [hPl]; exact hlt)) * sumN (l.map SubD.v) q[k].v := by
                  simp only [partS]
                  rw [hgk, getD_lt _ _ (by rw [hPl]; exact hlt)]
                have hm1 := HPt.out k (by simpa using hk9)
                have hm2 := HPt.out (k + 1) (by rw [List.length_map]; omega)
                rw [hss] at hm2
                obtain ⟨hE1, hE2, hE3, hE4⟩ := HTs.out q[k] (List.getElem_mem hlt)
                have hpk := HPb.out.1 _ (List.getElem_mem (by rw [hPl]; exact hlt : k < P.length))
                have hpr := prod_bd hpk ⟨hE3, hE4⟩
                have HSy := Lib.hid (HSu.out q[k] (List.getElem_mem hlt))
                rw [hE1, hE2] at HSy
                clear hE1 hE2 hgk
                generalize (P[k]'(by rw [hPl]; exact hlt)) = pk at *
                generalize q[k] = y at *
                generalize sumB columns (l.map SubD.v) ⟨y.v.wheres, y.v.col, y.v.clip, 1⟩ = bnd at *
                generalize sumN (l.map SubD.v) y.v = nn at *
                generalize partS P (l.map SubD.v) (q.map QueD.v) k = sn at *
                generalize hpn : pk * nn = pn at *
                have hw1 : IntKind.i64.wrap pn = pn := IntWalk.i64_in _ (by omega)
                have hw2 : IntKind.i64.wrap (sn + pn) = sn + pn := IntWalk.i64_in _ (by omega)
                have kq0 := Blk.new wr #[.slice y.W y.v.wheres.length y.c, .int .i64 y.v.col, .int .i64 y.v.clip, .int .i64 y.v.step] 25
                have kq0c := kq0.cell
                have kq0f := kq0.free
                have kq := Blk.new wr #[.slice y.W y.v.wheres.length y.c, .int .i64 y.v.col, .int .i64 y.v.clip, .int .i64 1] 25
                have kqc := kq.cell
                have bB := (Below.refl wr.heap.size wr).alloc (Nat.le_refl _) (.cells #[.slice y.W y.v.wheres.length y.c, .int .i64 y.v.col, .int .i64 y.v.clip, .int .i64 1] 25)
                have bw9 := bz.trans (bB.mono bz.size)
                have bB1 := hB.trans (bB.mono hB.size)
                have HSn := Lib.hid hss
                clear hss hpr hpk hm1 hE3 hE4
                go_wp2_with (go_at_call 14; (with_reducible refine (HSy.out _ bw9).mono ?_); rintro e x5 ⟨rfl, y5⟩; have cN6 := ((bB.trans (y5.mono bB.size)).cell (p := ⟨b6, o6 + k, none⟩) hb6).trans cN)
                go_roundw
                case rel => exact ⟨k + 1, by omega, by rw [HSn.out], by go_num, Lib.hid (bB1.trans (y5.mono bB1.size))⟩
                case measure => simp [vInt]; omega
              · have hql : ¬ (k : Int) < (q.length : Int) := by omega
                obtain rfl : k = q.length := by omega
                rw [HSm.out]
                have kc := (HK8.out.below hB HK8.out.lt).cell
                have hq0 : 0 < q.length := HSp.out.2.1
                obtain ⟨b9, o9, rfl, hb9, d0, d1, d2, d3, _⟩ := ques_at (HQ.out.later bz) hq0
                rw [HQ0.out hq0]
                have hcb := cnt_bound ((ask_parts HTb.out).2.2.1 _ (List.mem_map_of_mem (List.getElem_mem hkl))) (HAv.out _ (List.getElem_mem hq0))
                have HC0 := Lib.hid (HCn.out q[0] (List.getElem_mem hq0))
                have hq0I : (0 : Int) < (q.length : Int) := by omega
                generalize q[0] = y at *
                generalize cntQ l[kn].v y.v = cn at *
                have hmc : 0 ≤ M * cn ∧ M * cn ≤ 40320 * 1000000 := by
                  have hM := HPb.out.2
                  exact ⟨Int.mul_nonneg (by omega) hcb.1, Int.mul_le_mul hM.2 hcb.2 hcb.1 (by omega)⟩
                generalize hmn : M * cn = mc at *
                have hwm : IntKind.i64.wrap mc = mc := IntWalk.i64_in _ (by omega)
                have D0 : Below wr.heap.size wr wr.drew := (Below.refl _ _).drew
                have bzd := bz.trans (D0.mono bz.size)
                simp only [Nat.zero_mul, Nat.add_zero] at d0 d1 d2 d3
                clear hcb hmc
                go_upto_region 35 with fail
                go_region_law (go_simp; go_at_call 33; (with_reducible refine (HC0.out _ bzd).mono ?_); rintro e x5 ⟨rfl, y5⟩; have b5 := bzd.trans (y5.mono bzd.size))
                all_goals go_wp2_with fail
                all_goals go_ret
                all_goals exact ⟨ret_bool (by simp), b5⟩
      · have HHo := Lib.hid (fun (W' : World) (hb' : Below w.heap.size w W') => (hrd W' hb').how_no (c := c) (sc := qc) ho hx hF)
        go_enter Tryz.func8, Tryz.ntmps8
        go_wp2_with (first
          | (go_at_call 12; (with_reducible refine (HAl.out _).mono ?_); rintro e w1 ⟨rfl, h1⟩; have b2 := b1.trans (h1.mono b1.size))
          | (go_at_call 34; (with_reducible refine (HR1.out _ b2).mono ?_); rintro e w4 ⟨rfl, h4⟩; have b4 := b2.trans (h4.mono b2.size); have cc0 := (b4.cell (p := ⟨b, off + kn * 2, none⟩) hb).trans c00; have cc1 := (b4.cell (p := ⟨b, off + kn * 2 + 1, none⟩) hb).trans c01; have bA := b4.alloc b4.size (.cells #[.int .i64 l[kn].v.id, .slice l[kn].V l[kn].v.vals.length l[kn].c] 56); have ko := Blk.new w4 #[.int .i64 l[kn].v.id, .slice l[kn].V l[kn].v.vals.length l[kn].c] 56)
          | (go_at_call 16; (with_reducible refine (HHo.out _ bA).mono ?_); rintro e w6 ⟨rfl, y6⟩; have b6 := bA.trans (y6.mono bA.size)))
        go_ret
        exact ⟨rfl, b6⟩
end Go.Proofs.YtbkekdbabkncfaaGreat
