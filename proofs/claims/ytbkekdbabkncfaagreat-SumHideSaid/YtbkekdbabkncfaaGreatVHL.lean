/- The law on Hide. -/
import Derived.Test.YtbkekdbabkncfaaGreatV5
import Derived.Test.YtbkekdbabkncfaaGreatVAl

namespace Go.Proofs.YtbkekdbabkncfaaGreat
open Go.RowKit Go.Maps
set_option maxRecDepth 100000 in
set_option maxHeartbeats 16000000 in
theorem sumHide_any (columns : Int) (l : List SubD) (A : Option Addr) (c : Nat) (q : List QueD) (Q : Option Addr) (qc : Nat) (k : Int) (w : World) (h : SubsAt w w.heap.size A l) (hm : ∀ x ∈ l, x.v.vals.length ≤ maxLen) (hq : QuesAt w w.heap.size Q q) (hqw : ∀ x ∈ q, x.v.wheres.length ≤ maxLen) (hk : 0 ≤ k ∧ k ≤ 255) :
    Calls Tryz.prog 9 #[.int .i64 columns, .slice A l.length c, .slice Q q.length qc, .int .u8 k] w fun e w' => e = .returned (.bool true) ∧ Below w.heap.size w w' := by
  have b1 := Below.refl w.heap.size w
  have HAl := Lib.hid (fun W' => alive_any W')
  have HR1 := Lib.hid (fun (W' : World) (hb : Below w.heap.size w W') => ready_any columns l A c q Q qc W' (h.later hb) hm (hq.later hb) hqw)
  cases hr1 : rdyB columns l q with
  | false =>
    rw [hr1] at HR1
    clear h hm hq hqw hr1
    go_enter Tryz.func9, Tryz.ntmps9
    go_wp2_with (first
      | (go_at_call 12; (with_reducible refine (HAl.out _).mono ?_); rintro e w1 ⟨rfl, h1⟩; have b2 := b1.trans (h1.mono b1.size))
      | (go_at_call 34; (with_reducible refine (HR1.out _ b2).mono ?_); rintro e w4 ⟨rfl, h4⟩; have b4 := b2.trans (h4.mono b2.size)))
    go_ret
    exact ⟨rfl, b4⟩
  | true =>
    rw [hr1] at HR1
    obtain ⟨hgr, htb, hav⟩ := rdy_parts hr1
    by_cases hn0 : l.length = 0
    · have hz : ((l.length : Int) == 0) = true := by rw [hn0]; rfl
      clear h hm hq hqw hr1 hgr htb hav hn0
      go_enter Tryz.func9, Tryz.ntmps9
      go_wp2_with (first
        | (go_at_call 12; (with_reducible refine (HAl.out _).mono ?_); rintro e w1 ⟨rfl, h1⟩; have b2 := b1.trans (h1.mono b1.size))
        | (go_at_call 34; (with_reducible refine (HR1.out _ b2).mono ?_); rintro e w4 ⟨rfl, h4⟩; have b4 := b2.trans (h4.mono b2.size)))
      go_ret
      exact ⟨rfl, b4⟩
    · have hne : ((l.length : Int) == 0) = false := by rw [beq_eq_false_iff_ne]; omega
      have hnI : ¬ ((l.length : Int) = 0) := by omega
      obtain ⟨kn, hkn⟩ : ∃ kn : Nat, k.tmod (l.length : Int) = kn := ⟨(k.tmod (l.length : Int)).toNat, (Int.toNat_of_nonneg (Int.tmod_nonneg (l.length : Int) hk.1)).symm⟩
      have hkl : kn < l.length := by
        have := Int.tmod_lt_of_pos k (show (0 : Int) < l.length by omega)
        rw [hkn] at this
        omega
      have hkI : (kn : Int) < (l.length : Int) := by omega
      have hcv : IntKind.i64.wrap k = k := IntWalk.i64_in _ (by omega)
      obtain ⟨b, off, rfl, hb, c00, c01, _⟩ := subs_at h hkl
      have hx : l[kn] ∈ l := List.getElem_mem hkl
      obtain ⟨ol, ho⟩ := srt_some l
      have hrd := fun (W' : World) (hb' : Below w.heap.size w W') => (Rdy.mk (columns := columns) (h.later hb') hm htb (hq.later hb') hqw hav)
      have HDe := Lib.hid (fun (W' : World) (hb' : Below w.heap.size w W') => (hrd W' hb').ded0 (c := c) (sc := qc) ho)
      by_cases hF : FollowAt (ledR ol q) (befN l l[kn].v.id)
      · have HHo := Lib.hid (fun (W' : World) (hb' : Below w.heap.size w W') => (hrd W' hb').how_yes (c := c) (sc := qc) ho hx hF)
        have HHi := Lib.hid (fun (W' : World) (hb' : Below w.heap.size w W') => (hrd W' hb').hide_no (c := c) (sc := qc) ho hx hF)
        go_enter Tryz.func9, Tryz.ntmps9
        go_upto_region 13 with (first
          | (go_at_call 12; (with_reducible refine (HAl.out _).mono ?_); rintro e w1 ⟨rfl, h1⟩; have b2 := b1.trans (h1.mono b1.size))
          | (go_at_call 34; (with_reducible refine (HR1.out _ b2).mono ?_); rintro e w4 ⟨rfl, h4⟩; have b4 := b2.trans (h4.mono b2.size); have cc0 := (b4.cell (p := ⟨b, off + kn * 2, none⟩) hb).trans c00; have cc1 := (b4.cell (p := ⟨b, off + kn * 2 + 1, none⟩) hb).trans c01; have bA := b4.alloc b4.size (.cells #[.int .i64 l[kn].v.id, .slice l[kn].V l[kn].v.vals.length l[kn].c] 56); have ko := Blk.new w4 #[.int .i64 l[kn].v.id, .slice l[kn].V l[kn].v.vals.length l[kn].c] 56)
          | (go_at_call 19; (with_reducible refine (HDe.out _ bA).mono ?_); rintro e w5 ⟨A5, c5, rfl, i5, y5⟩; have b5 := bA.trans (y5.mono bA.size); have ko5 := ko.below y5 ko.lt; have ko5c := ko5.cell)
          | (go_at_call 16; (with_reducible refine (HHo.out _ b5).mono ?_); rintro e w6 ⟨A6, n6, c6, v6, rfl, y6⟩; have b6 := b5.trans (y6.mono b5.size); have ko6 := ko5.below y6 ko5.lt; have ko6c := ko6.cell)
          | (go_at_call 20; (with_reducible refine (HHi.out _ b6).mono ?_); rintro e w7 ⟨rfl, y7⟩; have b7 := b6.trans (y7.mono b6.size); have ko7 := ko6.below y7 ko6.lt; have ko7c := ko7.cell))
        have hsl := Lib.hid (ded_lt (ol := ol) (qs := q) (avl_parts hav).1 (srt_ids ho (tab_ids htb)))
        have hmem := Lib.hid ((ded_follow (avl_parts hav).1 (srt_ids ho (tab_ids htb)) (find_at ho (tab_ids htb) hx).1).2 hF)
        have hl8 := ded8 (ol := ol) (qs := q) (avl_parts hav).1
        generalize l[kn].v.id = id at *
        generalize dedR ol q = da at *
        have I5 := Lib.hid (i5.later (y6.trans (y7.mono y6.size)))
        have HK := Lib.hid ko7
        clear i5 y5 y6 y7 ko ko5 ko6 ko5c ko6c b2 h1 h4 cc0 cc1 c00 c01 bA b4 b5 b6 HDe HHo HHi HR1 HAl hrd hF hx ho hgr htb hav hr1 hm hq hqw h
        go_wp2_with fail
        go_loopw [18, 78] (fun nn jj wr => ∃ (m : Bool) (j : Nat), j ≤ da.length ∧ nn = .bool m ∧ jj = .int .i64 j ∧ Hid (Below w7.heap.size w7 wr ∧ m = decide (id ∈ da.take j))) (fun _ jj _ => da.length - (vInt jj).toNat)
        case atStart => exact ⟨false, 0, Nat.zero_le _, rfl, rfl, Lib.hid ⟨Below.refl _ _, by simp⟩⟩
        case round =>
          obtain ⟨m, j, hj, rfl, rfl, hR⟩ := hrel
          obtain ⟨hB, hM⟩ := hR.out
          have kc := (HK.out.below hB HK.out.lt).cell
          by_cases hlt : j < da.length
          · have hjl : (j : Int) < (da.length : Int) := by omega
            obtain ⟨b5, o5, rfl, hb5, cj⟩ := ints_at (I5.out.later hB) hlt
            have hsn : decide (id ∈ da.take (j + 1)) = (m || (da[j] == id)) := by
              rw [List.take_succ_eq_append_getElem hlt, hM]
              simp only [List.mem_append, List.mem_singleton]
              by_cases q1 : id ∈ da.take j
              · simp [q1]
              · by_cases q2 : da[j] = id
                · simp [q1, q2]
                · have q3 : ¬ id = da[j] := fun e => q2 e.symm
                  simp [q1, q2, q3]
            have hprev : ∀ hj0 : 0 < j, ¬ da[j] ≤ da[j - 1] := fun hj0 => by
              have := List.pairwise_iff_getElem.1 hsl.out (j - 1) j (by omega) hlt (by omega)
              omega
            have HS := Lib.hid hsn
            clear hsn hM hR
            by_cases hj0 : j = 0
            · subst hj0
              clear hprev
              rw [Nat.add_zero] at cj
              generalize da[0] = x at *
              cases m with
              | true =>
                by_cases hxe : x = id
                · have hbe : (x == id) = true := by simpa using hxe
                  rw [hbe] at HS
                  clear hxe
                  go_wp2_with fail
                  all_goals exact ⟨⟨true, 0 + 1, by omega, by first | rfl | simp, by go_num, Lib.hid ⟨hB, by rw [HS.out]; rfl⟩⟩, by simp [vInt]; omega⟩
                · have hbe : (x == id) = false := by rw [beq_eq_false_iff_ne]; exact hxe
                  rw [hbe] at HS
                  go_wp2_with fail
                  all_goals exact ⟨⟨true, 0 + 1, by omega, by first | rfl | simp, by go_num, Lib.hid ⟨hB, by rw [HS.out]; rfl⟩⟩, by simp [vInt]; omega⟩
              | false =>
                by_cases hxe : x = id
                · have hbe : (x == id) = true := by simpa using hxe
                  rw [hbe] at HS
                  clear hxe
                  go_wp2_with fail
                  all_goals exact ⟨⟨true, 0 + 1, by omega, by first | rfl | simp, by go_num, Lib.hid ⟨hB, by rw [HS.out]; rfl⟩⟩, by simp [vInt]; omega⟩
                · have hbe : (x == id) = false := by rw [beq_eq_false_iff_ne]; exact hxe
                  rw [hbe] at HS
                  go_wp2_with fail
                  all_goals exact ⟨⟨false, 0 + 1, by omega, by first | rfl | simp, by go_num, Lib.hid ⟨hB, by rw [HS.out]; rfl⟩⟩, by simp [vInt]; omega⟩
            · have hjz : (0 : Int) < (j : Int) := by omega
              have hjz2 : 0 < j := by omega
              have hjz3 : (decide ((0 : Int) < (j : Int))) = true := decide_eq_true hjz
              obtain ⟨b6, o6, hA6, hb6, cp⟩ := ints_at (I5.out.later hB) (k := j - 1) (by omega)
              obtain ⟨rfl, rfl⟩ : b5 = b6 ∧ o5 = o6 := by simpa using hA6
              have hlx := hprev (by omega)
              have hjn : ((j : Int) - 1).toNat = j - 1 := by omega
              have hj9 : ¬ (j : Int) - 1 < 0 := by omega
              have hj8 : (j : Int) - 1 < (da.length : Int) := by omega
              have hjw : IntKind.i64.wrap ((j : Int) - 1) = (j : Int) - 1 := IntWalk.i64_in _ (by omega)
              have hjp : ((j - 1 : Nat) : Int) < (da.length : Int) := by omega
              clear hprev hA6
              generalize da[j - 1] = z at *
              generalize da[j] = x at *
              cases m with
              | true =>
                by_cases hxe : x = id
                · have hbe : (x == id) = true := by simpa using hxe
                  rw [hbe] at HS
                  clear hxe
                  go_wp2_with fail
                  all_goals exact ⟨⟨true, j + 1, by omega, by first | rfl | simp, by go_num, Lib.hid ⟨hB, by rw [HS.out]; rfl⟩⟩, by simp [vInt]; omega⟩
                · have hbe : (x == id) = false := by rw [beq_eq_false_iff_ne]; exact hxe
                  rw [hbe] at HS
                  go_wp2_with fail
                  all_goals exact ⟨⟨true, j + 1, by omega, by first | rfl | simp, by go_num, Lib.hid ⟨hB, by rw [HS.out]; rfl⟩⟩, by simp [vInt]; omega⟩
              | false =>
                by_cases hxe : x = id
                · have hbe : (x == id) = true := by simpa using hxe
                  rw [hbe] at HS
                  clear hxe
                  go_wp2_with fail
                  all_goals exact ⟨⟨true, j + 1, by omega, by first | rfl | simp, by go_num, Lib.hid ⟨hB, by rw [HS.out]; rfl⟩⟩, by simp [vInt]; omega⟩
                · have hbe : (x == id) = false := by rw [beq_eq_false_iff_ne]; exact hxe
                  rw [hbe] at HS
                  go_wp2_with fail
                  all_goals exact ⟨⟨false, j + 1, by omega, by first | rfl | simp, by go_num, Lib.hid ⟨hB, by rw [HS.out]; rfl⟩⟩, by simp [vInt]; omega⟩
          · have hjl : ¬ (j : Int) < (da.length : Int) := by omega
            obtain rfl : j = da.length := by omega
            have hmt : m = true := by rw [hM, List.take_length]; exact decide_eq_true hmem.out
            clear hR hM
            subst hmt
            go_wp2_with fail
            go_ret
            exact ⟨rfl, b7.trans (hB.mono b7.size)⟩
      · have HHo := Lib.hid (fun (W' : World) (hb' : Below w.heap.size w W') => (hrd W' hb').how_no (c := c) (sc := qc) ho hx hF)
        have HHi := Lib.hid (fun (W' : World) (hb' : Below w.heap.size w W') => (hrd W' hb').hide_yes (c := c) (sc := qc) ho hx hF)
        go_enter Tryz.func9, Tryz.ntmps9
        go_upto_region 13 with (first
          | (go_at_call 12; (with_reducible refine (HAl.out _).mono ?_); rintro e w1 ⟨rfl, h1⟩; have b2 := b1.trans (h1.mono b1.size))
          | (go_at_call 34; (with_reducible refine (HR1.out _ b2).mono ?_); rintro e w4 ⟨rfl, h4⟩; have b4 := b2.trans (h4.mono b2.size); have cc0 := (b4.cell (p := ⟨b, off + kn * 2, none⟩) hb).trans c00; have cc1 := (b4.cell (p := ⟨b, off + kn * 2 + 1, none⟩) hb).trans c01; have bA := b4.alloc b4.size (.cells #[.int .i64 l[kn].v.id, .slice l[kn].V l[kn].v.vals.length l[kn].c] 56); have ko := Blk.new w4 #[.int .i64 l[kn].v.id, .slice l[kn].V l[kn].v.vals.length l[kn].c] 56)
          | (go_at_call 19; (with_reducible refine (HDe.out _ bA).mono ?_); rintro e w5 ⟨A5, c5, rfl, i5, y5⟩; have b5 := bA.trans (y5.mono bA.size); have ko5 := ko.below y5 ko.lt; have ko5c := ko5.cell)
          | (go_at_call 16; (with_reducible refine (HHo.out _ b5).mono ?_); rintro e w6 ⟨rfl, y6⟩; have b6 := b5.trans (y6.mono b5.size); have ko6 := ko5.below y6 ko5.lt; have ko6c := ko6.cell)
          | (go_at_call 20; (with_reducible refine (HHi.out _ b6).mono ?_); rintro e w7 ⟨A7, c7, rfl, i7, y7⟩; have b7 := b6.trans (y7.mono b6.size); have ko7 := ko6.below y7 ko6.lt; have ko7c := ko7.cell))
        have hsl := Lib.hid (ded_lt (ol := ol) (qs := q) (avl_parts hav).1 (srt_ids ho (tab_ids htb)))
        have hmem : Hid (l[kn].v.id ∉ dedR ol q) := Lib.hid (fun hc => hF ((ded_follow (avl_parts hav).1 (srt_ids ho (tab_ids htb)) (find_at ho (tab_ids htb) hx).1).1 hc))
        have HSp := Lib.hid (hideL_spec (hrd w (Below.refl _ _)) ho hx hF)
        have HBd := Lib.hid (hideL_bd (ol := ol) (qs := q) (avl_parts hav).1 (find_at ho (tab_ids htb) hx).2)
        have hl8 := ded8 (ol := ol) (qs := q) (avl_parts hav).1
        have hR0 := hrd w (Below.refl _ _)
        have HAs := Lib.hid (fun (x : SubD) (hx : x ∈ l) (y : QueD) (hy : y ∈ q) => hR0.asked hx hy)
        have HBe := Lib.hid (fun (i : Int) => hR0.before (c := c) i)
        have HBl := Lib.hid (fun (x : SubD) (hx : x ∈ l) => hR0.bef_lt hx)
        have HBx : Hid (befN l l[kn].v.id < l.length) := Lib.hid (hR0.bef_lt hx)
        have HH := Lib.hid h
        have HQ := Lib.hid hq
        have hl16 := hR0.l16
        have hq8 := hR0.q8
        clear hR0
        generalize l[kn].v.id = id at *
        generalize dedR ol q = da at *
        generalize hideL ol q (befN l id) = N at *
        have I7 := Lib.hid i7
        have I5 := Lib.hid (i5.later (y6.trans (y7.mono y6.size)))
        have HK := Lib.hid ko7
        clear i7 i5 y5 y6 y7 ko ko5 ko6 ko5c ko6c b2 h1 h4 cc0 cc1 c00 c01 bA b4 b5 b6 HDe HHo HHi HR1 HAl hrd hF hx ho hgr htb hav hr1 hm hq hqw h
        go_wp2_with fail
        go_loopw [18, 78] (fun nn jj wr => ∃ (m : Bool) (j : Nat), j ≤ da.length ∧ nn = .bool m ∧ jj = .int .i64 j ∧ Hid (Below w7.heap.size w7 wr ∧ m = decide (id ∈ da.take j))) (fun _ jj _ => da.length - (vInt jj).toNat)
        case atStart => exact ⟨false, 0, Nat.zero_le _, rfl, rfl, Lib.hid ⟨Below.refl _ _, by simp⟩⟩
        case round =>
          obtain ⟨m, j, hj, rfl, rfl, hR⟩ := hrel
          obtain ⟨hB, hM⟩ := hR.out
          have kc := (HK.out.below hB HK.out.lt).cell
          by_cases hlt : j < da.length
          · have hjl : (j : Int) < (da.length : Int) := by omega
            obtain ⟨b5, o5, rfl, hb5, cj⟩ := ints_at (I5.out.later hB) hlt
            have hsn : decide (id ∈ da.take (j + 1)) = (m || (da[j] == id)) := by
              rw [List.take_succ_eq_append_getElem hlt, hM]
              simp only [List.mem_append, List.mem_singleton]
              by_cases q1 : id ∈ da.take j
              · simp [q1]
              · by_cases q2 : da[j] = id
                · simp [q1, q2]
                · have q3 : ¬ id = da[j] := fun e => q2 e.symm
                  simp [q1, q2, q3]
            have hprev : ∀ hj0 : 0 < j, ¬ da[j] ≤ da[j - 1] := fun hj0 => by
              have := List.pairwise_iff_getElem.1 hsl.out (j - 1) j (by omega) hlt (by omega)
              omega
            have HS := Lib.hid hsn
            clear hsn hM hR
            by_cases hj0 : j = 0
            · subst hj0
              clear hprev
              rw [Nat.add_zero] at cj
              generalize da[0] = x at *
              cases m with
              | true =>
                by_cases hxe : x = id
                · have hbe : (x == id) = true := by simpa using hxe
                  rw [hbe] at HS
                  clear hxe
                  go_wp2_with fail
                  all_goals exact ⟨⟨true, 0 + 1, by omega, by first | rfl | simp, by go_num, Lib.hid ⟨hB, by rw [HS.out]; rfl⟩⟩, by simp [vInt]; omega⟩
                · have hbe : (x == id) = false := by rw [beq_eq_false_iff_ne]; exact hxe
                  rw [hbe] at HS
                  go_wp2_with fail
                  all_goals exact ⟨⟨true, 0 + 1, by omega, by first | rfl | simp, by go_num, Lib.hid ⟨hB, by rw [HS.out]; rfl⟩⟩, by simp [vInt]; omega⟩
              | false =>
                by_cases hxe : x = id
                · have hbe : (x == id) = true := by simpa using hxe
                  rw [hbe] at HS
                  clear hxe
                  go_wp2_with fail
                  all_goals exact ⟨⟨true, 0 + 1, by omega, by first | rfl | simp, by go_num, Lib.hid ⟨hB, by rw [HS.out]; rfl⟩⟩, by simp [vInt]; omega⟩
                · have hbe : (x == id) = false := by rw [beq_eq_false_iff_ne]; exact hxe
                  rw [hbe] at HS
                  go_wp2_with fail
                  all_goals exact ⟨⟨false, 0 + 1, by omega, by first | rfl | simp, by go_num, Lib.hid ⟨hB, by rw [HS.out]; rfl⟩⟩, by simp [vInt]; omega⟩
            · have hjz : (0 : Int) < (j : Int) := by omega
              have hjz2 : 0 < j := by omega
              have hjz3 : (decide ((0 : Int) < (j : Int))) = true := decide_eq_true hjz
              obtain ⟨b6, o6, hA6, hb6, cp⟩ := ints_at (I5.out.later hB) (k := j - 1) (by omega)
              obtain ⟨rfl, rfl⟩ : b5 = b6 ∧ o5 = o6 := by simpa using hA6
              have hlx := hprev (by omega)
              have hjn : ((j : Int) - 1).toNat = j - 1 := by omega
              have hj9 : ¬ (j : Int) - 1 < 0 := by omega
              have hj8 : (j : Int) - 1 < (da.length : Int) := by omega
              have hjw : IntKind.i64.wrap ((j : Int) - 1) = (j : Int) - 1 := IntWalk.i64_in _ (by omega)
              have hjp : ((j - 1 : Nat) : Int) < (da.length : Int) := by omega
              clear hprev hA6
              generalize da[j - 1] = z at *
              generalize da[j] = x at *
              cases m with
              | true =>
                by_cases hxe : x = id
                · have hbe : (x == id) = true := by simpa using hxe
                  rw [hbe] at HS
                  clear hxe
                  go_wp2_with fail
                  all_goals exact ⟨⟨true, j + 1, by omega, by first | rfl | simp, by go_num, Lib.hid ⟨hB, by rw [HS.out]; rfl⟩⟩, by simp [vInt]; omega⟩
                · have hbe : (x == id) = false := by rw [beq_eq_false_iff_ne]; exact hxe
                  rw [hbe] at HS
                  go_wp2_with fail
                  all_goals exact ⟨⟨true, j + 1, by omega, by first | rfl | simp, by go_num, Lib.hid ⟨hB, by rw [HS.out]; rfl⟩⟩, by simp [vInt]; omega⟩
              | false =>
                by_cases hxe : x = id
                · have hbe : (x == id) = true := by simpa using hxe
                  rw [hbe] at HS
                  clear hxe
                  go_wp2_with fail
                  all_goals exact ⟨⟨true, j + 1, by omega, by first | rfl | simp, by go_num, Lib.hid ⟨hB, by rw [HS.out]; rfl⟩⟩, by simp [vInt]; omega⟩
                · have hbe : (x == id) = false := by rw [beq_eq_false_iff_ne]; exact hxe
                  rw [hbe] at HS
                  go_wp2_with fail
                  all_goals exact ⟨⟨false, j + 1, by omega, by first | rfl | simp, by go_num, Lib.hid ⟨hB, by rw [HS.out]; rfl⟩⟩, by simp [vInt]; omega⟩
          · have hjl : ¬ (j : Int) < (da.length : Int) := by omega
            obtain rfl : j = da.length := by omega
            have hmt : m = false := by rw [hM, List.take_length]; exact decide_eq_false hmem.out
            clear hR hM
            subst hmt
            have HCo := Lib.hid (common10_any N A7 c7 wr (I7.out.later hB) (fun x hx => by have := HBd.out x hx; omega) (by rw [HSp.out.1]; omega))
            rw [HSp.out.2.2.2] at HCo
            have hnl : ((N.length : Int) != (l.length : Int)) = false := by rw [HSp.out.1]; simp
            have hHB := Lib.hid hB
            clear hl8 hj hjl hB I5
            go_wp2_with (go_at_call 35; (with_reducible refine (HCo.out).mono ?_); rintro e x1 ⟨rfl, y1⟩)
            have HX := Lib.hid (hHB.out.trans (y1.mono hHB.out.size))
            clear HCo hHB y1 kc hnl
            go_loopw [143] (fun kk wr => ∃ k : Nat, k ≤ q.length ∧ kk = .int .i64 k ∧ Hid (Below w7.heap.size w7 wr)) (fun kk _ => q.length - (vInt kk).toNat)
            case atStart => exact ⟨0, Nat.zero_le _, rfl, HX⟩
            case round =>
              obtain ⟨k, hk9, rfl, hR⟩ := hrel
              have hB := hR.out
              have bq := b7.trans (hB.mono b7.size)
              by_cases hlt : k < q.length
              · have hql : (k : Int) < (q.length : Int) := by omega
                obtain ⟨b9, o9, rfl, hb9, d0, d1, d2, d3, _⟩ := ques_at (HQ.out.later bq) hlt
                have hym := List.getElem_mem hlt
                generalize q[k] = y at *
                have HAy := Lib.hid (fun (x : SubD) (hx : x ∈ l) => HAs.out x hx y hym)
                have HS0 := Lib.hid (HSp.out.2.1 y.v (List.mem_map_of_mem hym))
                have HMb := Lib.hid (fun (i : Nat) (hi : i ≤ l.length) => more_bd HBd.out l y.v i hi)
                have kq := Blk.new wr #[.slice y.W y.v.wheres.length y.c, .int .i64 y.v.col, .int .i64 y.v.clip, .int .i64 y.v.step] 25
                have bA := (Below.refl wr.heap.size wr).alloc (Nat.le_refl _) (.cells #[.slice y.W y.v.wheres.length y.c, .int .i64 y.v.col, .int .i64 y.v.clip, .int .i64 y.v.step] 25)
                have HBA := Lib.hid (hB.trans (bA.mono hB.size))
                have HKq := Lib.hid kq
                clear hym hR hB bA kq
                go_wp2_with fail
                generalize hWA : wr.alloc (.cells #[.slice y.W y.v.wheres.length y.c, .int .i64 y.v.col, .int .i64 y.v.clip, .int .i64 y.v.step] 25) = W1 at *
                clear hWA
                go_loopw [23, 149] (fun nn ii wr => ∃ i : Nat, i ≤ l.length ∧ nn = .int .i64 (sumS (moreG N l y.v) (l.take i)) ∧ ii = .int .i64 i ∧ Hid (Below W1.heap.size W1 wr)) (fun _ ii _ => l.length - (vInt ii).toNat)
                case atStart => exact ⟨0, Nat.zero_le _, rfl, rfl, Lib.hid (Below.refl _ _)⟩
                case round =>
                  obtain ⟨i, hi9, rfl, rfl, hR⟩ := hrel
                  have hB := hR.out
                  have bz7 := HBA.out.trans (hB.mono HBA.out.size)
                  have bz := b7.trans (bz7.mono b7.size)
                  have kq := HKq.out.below hB HKq.out.lt
                  by_cases hlt : i < l.length
                  · have hil : (i : Int) < (l.length : Int) := by omega
                    obtain ⟨b8, o8, hA8, hb8, c0, c1, _⟩ := subs_at (HH.out.later bz) hlt
                    obtain ⟨rfl, rfl⟩ : b = b8 ∧ off = o8 := by simpa using hA8
                    have hxm := List.getElem_mem hlt
                    have hss := sumS_take (moreG N l y.v) l hlt
                    have hm1 := HMb.out i hi9
                    have hm2 := HMb.out (i + 1) hlt
                    rw [hss] at hm2
                    have HBl' := HBl.out l[i] hxm
                    have HAx := Lib.hid (HAy.out l[i] hxm)
                    have hmg : moreG N l y.v l[i] = if askB l[i].v y.v = true then N.getD (befN l l[i].v.id) 0 else 0 := rfl
                    generalize l[i] = x at *
                    generalize sumS (moreG N l y.v) (l.take i) = sn at *
                    generalize moreG N l y.v x = mg at *
                    have kb := Blk.new wr #[.int .i64 x.v.id, .slice x.V x.v.vals.length x.c] 56
                    have bB := (Below.refl wr.heap.size wr).alloc (Nat.le_refl _) (.cells #[.int .i64 x.v.id, .slice x.V x.v.vals.length x.c] 56)
                    have bw9 := bz.trans (bB.mono bz.size)
                    have bB1 := hB.trans (bB.mono hB.size)
                    have kqc := (kq.below bB kq.lt).cell
                    have kbc := kb.cell
                    have kbl := kb.lt
                    have HSn := Lib.hid hss
                    clear hss
                    cases hask : askB x.v y.v with
                    | false =>
                      rw [hask] at HAx hmg
                      rw [if_neg (by decide)] at hmg
                      subst hmg
                      go_wp2_with (go_at_call 32; (with_reducible refine (HAx.out _ bw9).mono ?_); rintro e x5 ⟨rfl, y5⟩)
                      go_roundw
                      case rel => exact ⟨i + 1, by omega, by rw [HSn.out, Int.add_zero], by go_num, Lib.hid (bB1.trans (y5.mono bB1.size))⟩
                      case measure => simp [vInt]; omega
                    | true =>
                      rw [hask] at HAx hmg
                      rw [if_pos rfl] at hmg
                      have HBx' := Lib.hid (HBe.out x.v.id)
                      generalize befN l x.v.id = bn at *
                      obtain ⟨b6, o6, hA6, hb6, cN⟩ := ints_at (I7.out.later bz7) (k := bn) (by rw [HSp.out.1]; exact HBl')
                      subst hA6
                      rw [getD_lt _ _ (by rw [HSp.out.1]; exact HBl')] at hmg
                      rw [← hmg] at cN
                      have hbnI : (bn : Int) < (N.length : Int) := by rw [HSp.out.1]; omega
                      have hwn : IntKind.i64.wrap (sn + mg) = sn + mg := IntWalk.i64_in _ (by omega)
                      clear hmg
                      go_wp2_with (first
                        | (go_at_call 32; (with_reducible refine (HAx.out _ bw9).mono ?_); rintro e x5 ⟨rfl, y5⟩; have bw5 := bw9.trans (y5.mono bw9.size); have kb5 := (kb.below y5 kbl).cell)
                        | (go_at_call 36; (with_reducible refine (HBx'.out _ bw5).mono ?_); rintro e x6 ⟨rfl, y6⟩; have cN6 := ((bB.trans ((y5.trans (y6.mono y5.size)).mono bB.size)).cell (p := ⟨b6, o6 + bn, none⟩) hb6).trans cN))
                      go_roundw
                      case rel => exact ⟨i + 1, by omega, by rw [HSn.out], by go_num, Lib.hid (bB1.trans ((y5.trans (y6.mono y5.size)).mono bB1.size))⟩
                      case measure => simp [vInt]; omega
                  · have hil : ¬ (i : Int) < (l.length : Int) := by omega
                    obtain rfl : i = l.length := by omega
                    have hz : sumS (moreG N l y.v) (l.take l.length) = 0 := by rw [List.take_length]; exact HS0.out
                    rw [hz]
                    go_wp2_with fail
                    go_roundw
                    case rel => exact ⟨k + 1, by omega, by go_num, Lib.hid bz7⟩
                    case measure => simp [vInt]; omega
              · have hql : ¬ (k : Int) < (q.length : Int) := by omega
                obtain rfl : k = q.length := by omega
                have kc := (HK.out.below hB HK.out.lt).cell
                have HBx' := Lib.hid (HBe.out id)
                have hgt := HSp.out.2.2.1
                have hbl := HBx.out
                generalize befN l id = bn at *
                obtain ⟨b6, o6, hA6, hb6, cN⟩ := ints_at (I7.out.later hB) (k := bn) (by rw [HSp.out.1]; exact hbl)
                subst hA6
                rw [getD_lt _ _ (by rw [HSp.out.1]; exact hbl)] at hgt
                have hbnI : (bn : Int) < (N.length : Int) := by rw [HSp.out.1]; omega
                generalize N[bn]'(by rw [HSp.out.1]; exact hbl) = z at *
                go_wp2_with (go_at_call 36; (with_reducible refine (HBx'.out _ bq).mono ?_); rintro e x6 ⟨rfl, y6⟩; have cN6 := (y6.cell (p := ⟨b6, o6 + bn, none⟩) hb6).trans cN)
                go_ret
                exact ⟨rfl, bq.trans (y6.mono bq.size)⟩
end Go.Proofs.YtbkekdbabkncfaaGreat
