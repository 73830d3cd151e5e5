/- Reasons by the program: the first set with other values. Written by a program. -/
import Derived.Test.YtpahcbhikmfamaaGreatRP6B

namespace Go.Proofs.YtpahcbhikmfamaaGreat
open Go.RowKit Go.Shelf Go.Maps

attribute [local go_sem] Oper.semAt_some


/-- No set up to the q-th does. -/
def NoR (T : Nat) (need : Int) (x : List Int) (cs : Nat → List Int) (scf : List Int → Int) (ss : List StD) (q : Nat) : Prop := ∀ j, (h : j < ss.length) → j < q → firstR (fun y => wasB need (scf y)) (wasB need (scf x)) (fun s => listsS T (freeL x s) cs) ss[j].l = none
theorem NoR.succ {T : Nat} {need : Int} {x : List Int} {cs : Nat → List Int} {scf : List Int → Int} {ss : List StD} {q : Nat} (h : NoR T need x cs scf ss q) (hq : q < ss.length) (h1 : firstR (fun y => wasB need (scf y)) (wasB need (scf x)) (fun s => listsS T (freeL x s) cs) ss[q].l = none) : NoR T need x cs scf ss (q + 1) := fun j hj hjq => by
  rcases Nat.lt_or_ge j q with h2 | h2
  · exact h j hj h2
  · obtain rfl : j = q := by omega
    exact h1
theorem findSome_take {α β : Type} (f : α → Option β) : ∀ (l : List α) (q : Nat), (h : q < l.length) → (∀ j, (hj : j < l.length) → j < q → f l[j] = none) → l.findSome? f = (l.drop q).findSome? f
  | [], q, h, _ => by simp at h
  | x :: l, 0, _, _ => rfl
  | x :: l, q + 1, h, hn => by
    have h0 := hn 0 (by simp) (by omega)
    rw [List.findSome?_cons, show f x = none from h0, List.drop_succ_cons]
    exact findSome_take f l q (by simpa using h) (fun j hj hjq => hn (j + 1) (by simpa using hj) (by omega))
theorem findSome_none {α β : Type} (f : α → Option β) (l : List α) (h : ∀ x ∈ l, f x = none) : l.findSome? f = none := List.findSome?_eq_none_iff.2 h
theorem NoR.found {T : Nat} {need : Int} {x : List Int} {cs : Nat → List Int} {scf : List Int → Int} {ss : List StD} {q : Nat} (h : NoR T need x cs scf ss q) (hq : q < ss.length) {r : List Int} (h1 : firstR (fun y => wasB need (scf y)) (wasB need (scf x)) (fun s => listsS T (freeL x s) cs) ss[q].l = some r) :
    reasR (fun y => wasB need (scf y)) (wasB need (scf x)) (fun s => listsS T (freeL x s) cs) (ss.map StD.l) = some (ss[q].l, pickV ss[q].l r) := by
  unfold reasR
  rw [findSome_take _ _ q (by simpa using hq) (fun j hj hjq => by rw [List.getElem_map, h j (by simpa using hj) hjq]; rfl), List.drop_eq_getElem_cons (by simpa using hq), List.findSome?_cons, List.getElem_map, h1]
  rfl
theorem NoR.none {T : Nat} {need : Int} {x : List Int} {cs : Nat → List Int} {scf : List Int → Int} {ss : List StD} (h : NoR T need x cs scf ss ss.length) :
    reasR (fun y => wasB need (scf y)) (wasB need (scf x)) (fun s => listsS T (freeL x s) cs) (ss.map StD.l) = none := by
  unfold reasR
  refine findSome_none _ _ fun s hs => ?_
  obtain ⟨y, hy, rfl⟩ := List.mem_map.1 hs
  obtain ⟨j, hj, rfl⟩ := List.getElem_of_mem hy
  rw [h j hj hj]; rfl

set_option maxRecDepth 100000 in
set_option maxHeartbeats 60000000 in
theorem reasonsP_in (T : Nat) (hT : T ≤ 5) (need : Int) (_hneed : -1000000 ≤ need ∧ need ≤ 1000000) (C T' S X : Option Addr) (cl c tl t n' s xc : Nat) (x : List Int) (hxl : x.length = T) (cs : Nat → List Int) (scf : List Int → Int) (w : World)
    (hx : IntsAt w w.heap.size X x) (HC : ∀ W, Below w.heap.size w W → Calls Tryz.prog 46 #[.agg #[.int .i64 (T : Int), .slice C cl c, .slice T' tl t, .int .i64 need, .slice S n' s]] W (CutsS W T cs))
    (HSc : ∀ W (X : Option Addr) (xc : Nat) (x : List Int), Below w.heap.size w W → IntsAt W W.heap.size X x → x.length = T → Calls Tryz.prog 19 #[.agg #[.int .i64 (T : Int), .slice C cl c, .slice T' tl t, .int .i64 need, .slice S n' s], .slice X x.length xc] W fun e w' => e = .returned (.int .i64 (scf x)) ∧ Below W.heap.size W w')
    (HYe : ∀ W (n : Int), Calls Tryz.prog 20 #[.agg #[.int .i64 (T : Int), .slice C cl c, .slice T' tl t, .int .i64 need, .slice S n' s], .int .i64 n] W fun e w' => e = .returned (.bool (wasB need n)) ∧ Below W.heap.size W w') :
    CallsIn Fence.wide 9 Tryz.prog 25 #[.agg #[.int .i64 (T : Int), .slice C cl c, .slice T' tl t, .int .i64 need, .slice S n' s], .slice X T xc] w (ReasS w (reasR (fun y => wasB need (scf y)) (wasB need (scf x)) (fun s => listsS T (freeL x s) cs) (setsS T))) := by
  have hfn : ∀ f, Fence.wide.fn f := fun _ => trivial
  have hdep : Fence.wide.depth.isSome = false := rfl
  obtain ⟨i4, hi4, hq0, hq1, hq2⟩ := info_parts intInfo
  have hmx : Tryz.prog.follows .mixedOrders = true := by kernel_rfl
  have hsz3 : (((w.alloc (.cells #[.int .i64 (T : Int), .slice C cl c, .slice T' tl t, .int .i64 need, .slice S n' s] 66)).alloc (.cells #[.slice none 0 0] 26)).alloc (.cells #[.slice none 0 0] 26)).heap.size = w.heap.size + 3 := by simp
  have b0 := (((Below.refl w.heap.size w).alloc (Nat.le_refl _) (.cells #[.int .i64 (T : Int), .slice C cl c, .slice T' tl t, .int .i64 need, .slice S n' s] 66)).alloc (by simp) (.cells #[.slice none 0 0] 26)).alloc (by simp; omega) (.cells #[.slice none 0 0] 26)
  have km := ((Blk.new w #[.int .i64 (T : Int), .slice C cl c, .slice T' tl t, .int .i64 need, .slice S n' s] 66).alloc (.cells #[.slice none 0 0] 26)).alloc (.cells #[.slice none 0 0] 26)
  have k4 := (newAt' (w.alloc (.cells #[.int .i64 (T : Int), .slice C cl c, .slice T' tl t, .int .i64 need, .slice S n' s] 66)) #[.slice none 0 0] 26 (g := w.heap.size + 1) (by simp)).alloc (.cells #[.slice none 0 0] 26)
  have k5 := newAt' ((w.alloc (.cells #[.int .i64 (T : Int), .slice C cl c, .slice T' tl t, .int .i64 need, .slice S n' s] 66)).alloc (.cells #[.slice none 0 0] 26)) #[.slice none 0 0] 26 (g := w.heap.size + 1 + 1) (by simp)
  refine callsIn_of_wp_marks Tryz.func25 rfl trivial ?_ rfl
  simp only [Tryz.ntmps25, List.size_toArray, List.length_cons, List.length_nil, Nat.reduceAdd, Nat.reduceSub, Array.replicate_succ, Array.replicate_zero, List.push_toArray, List.append_toArray, List.nil_append, List.cons_append]
  gi_wp2
  refine wpIn_wide.2 (wp_scope_straight (wp_mono ((wpIn_wide (n := 9)).1 ?_) noGoto_post))
  generalize (((w.alloc (.cells #[.int .i64 (T : Int), .slice C cl c, .slice T' tl t, .int .i64 need, .slice S n' s] 66)).alloc (.cells #[.slice none 0 0] 26)).alloc (.cells #[.slice none 0 0] 26)) = W3 at *
  have hs3 : w.heap.size + 3 ≤ W3.heap.size := Nat.le_of_eq hsz3.symm
  clear hsz3
  have kmc := km.cell
  have HSx := Lib.hid (fun W (hb : Below W3.heap.size W3 W) => HSc W X xc x (b0.trans (hb.mono (by omega))) (hx.later (b0.trans (hb.mono (by omega)))) hxl)
  rw [hxl] at HSx
  refine wpIn_seq_k (fun K hK => ?_)
  gi_cut [6] from 12 (fun p6 wx => ∃ g6, p6 = .pointer (some ⟨g6, 0, none⟩) ∧ Hid (W3.heap.size ≤ g6 ∧ Blk wx g6 #[.bool (wasB need (scf x))] 4 ∧ Below W3.heap.size W3 wx))
  case first =>
    have O6 : Obj := .cells #[.bool false] 4
    have k6 := Blk.new W3 #[.bool false] 4
    have bA := (Below.refl W3.heap.size W3).alloc (Nat.le_refl _) (.cells #[.bool false] 4)
    have HS1 := Lib.hid (HSx.out W3.drew (Below.refl _ _).drew)
    have HS2 := Lib.hid (HSx.out (W3.alloc (.cells #[.bool false] 4)).drew bA.drew)
    have HY := Lib.hid (fun W => HYe W (scf x))
    have HK6 := Lib.hid k6
    have HBA := Lib.hid bA
    have kmc := km.cell
    have kma := (km.alloc (.cells #[.bool false] 4)).cell
    have HKM0 := Lib.hid km
    have hnc : ∀ W : World, (W.alloc (.cells #[.bool false] 4)).cell? ⟨W.heap.size, 0, none⟩ = some (.bool false) := fun W => (Blk.new W #[.bool false] 4).cell 0
    have hnf : ∀ W : World, (W.alloc (.cells #[.bool false] 4)).frozen? ⟨W.heap.size, 0, none⟩ = false := fun W => (Blk.new W #[.bool false] 4).free 0
    clear HSx hx HC HSc HYe k6 bA km
    generalize scf x = z at *
    generalize wasB need z = was at *
    refine wpIn_mono (wpIn_wide.2 ?_) then_false
    go_region_law (first
      | (go_simp; go_at_call 19; first
          | ((with_reducible refine (HS1.out).mono ?_); rintro e w7 ⟨rfl, h7⟩; have kb7 := HKM0.out.drew.below h7 HKM0.out.lt; have kc7 := kb7.cell; have kc7a := (kb7.alloc (.cells #[.bool false] 4)).cell)
          | ((with_reducible refine (HS2.out).mono ?_); rintro e w7 ⟨rfl, h7⟩; have kk7 := HK6.out.drew.below h7 HK6.out.drew.lt; have kb7 := (HKM0.out.alloc (.cells #[.bool false] 4)).drew.below h7 (HKM0.out.alloc (.cells #[.bool false] 4)).lt; have kc7 := kb7.cell))
      | (go_simp; go_at_call 20; (with_reducible refine (HY.out _).mono ?_); rintro e w8 ⟨rfl, h8⟩; (first | (have kk8 := kk7.below h8 kk7.lt; have kc8 := kk8.cell; have kf8 := kk8.free) | (have kk8 := (Blk.new w7 #[.bool false] 4).below h8 (Blk.new w7 #[.bool false] 4).lt; have kc8 := kk8.cell; have kf8 := kk8.free) | skip)))
    all_goals first | (go_step; go_step; gi_meet) | (go_step; gi_meet) | gi_meet
    all_goals first
      | exact ⟨_, rfl, Lib.hid ⟨Nat.le_refl _, by simpa using kk8.set 0 (.bool was), (((HBA.out.drew.trans (h7.mono HBA.out.size)).trans (h8.mono (Nat.le_trans HBA.out.size h7.size))).setCell (p := ⟨W3.heap.size, 0, none⟩) (Nat.le_refl _) _)⟩⟩
      | exact ⟨_, rfl, Lib.hid ⟨h7.size, by simpa using kk8.set 0 (.bool was), (((((Below.refl W3.heap.size W3).drew.trans h7).alloc h7.size _).trans (h8.mono (Nat.le_trans h7.size (by simp)))).setCell (p := ⟨w7.heap.size, 0, none⟩) h7.size _)⟩⟩
      | exact ⟨_, rfl, Lib.hid ⟨Nat.le_trans h7.size h8.size, Blk.new _ _ _, ((((Below.refl W3.heap.size W3).drew.trans h7).trans (h8.mono h7.size)).alloc (Nat.le_trans h7.size h8.size) _)⟩⟩
  case rest =>
    obtain ⟨g6, rfl, HH⟩ := hcut
    obtain ⟨hg6, k6, hB6⟩ := HH.out
    refine hK _ _ ?_
    refine wpIn_seq_k (fun K2 hK2 => ?_)
    refine wpIn_label ?_
    refine hK2 _ _ ?_
    have kmw := km.below hB6 km.lt
    have kmwc := kmw.cell
    have HSets := Lib.hid ((callsIn_wide (n := 8)).2 (setsP_any T hT need C T' S cl c tl t n' s wc))
    gi_wp2_with (gi_at_call 39; refine (HSets.out).mono ?_; rintro e w9 ⟨A9, c9, N, ss, rfl, hN, hfin, hmap, h9⟩)
    subst hN
    have hB9 := hB6.trans (h9.mono hB6.size)
    have kM9 := km.below hB9 km.lt
    have k49 := k4.below hB9 k4.lt
    have k59 := k5.below hB9 k5.lt
    have k69 := k6.below h9 k6.lt
    have hw9 := b0.trans (hB9.mono (by omega))
    have hs9 := hB9.size
    have HBw : Hid (∀ W, Below w9.heap.size w9 W → Below w.heap.size w W) := Lib.hid (fun W h => hw9.trans (h.mono hw9.size))
    have HK9 : Hid (∀ W, Below w9.heap.size w9 W → Blk W w.heap.size #[.int .i64 (T : Int), .slice C cl c, .slice T' tl t, .int .i64 need, .slice S n' s] 66 ∧ Blk W (w.heap.size + 1) #[.slice none 0 0] 26 ∧ Blk W (w.heap.size + 1 + 1) #[.slice none 0 0] 26 ∧ Blk W g6 #[.bool (wasB need (scf x))] 4) := Lib.hid (fun W h => ⟨kM9.below h kM9.lt, k49.below h k49.lt, k59.below h k59.lt, k69.below h k69.lt⟩)
    have HSS := Lib.hid hmap
    have HFin := Lib.hid hfin
    have hg69 := k69.lt
    have hssN : ss.length ≤ 32 := by
      have h1 : (ss.map StD.l).length = (setsS T).length := by rw [hmap]
      rw [List.length_map, (setsS_perm T).length_eq] at h1
      have := (pow_le T hT).2
      unfold allSets at h1
      rw [List.length_map, List.length_range] at h1
      omega
    have Hx := Lib.hid (fun W (h : Below w9.heap.size w9 W) => hx.later (HBw.out W h))
    have Hxl := Lib.hid hxl
    have HC9 := Lib.hid HC
    have HS9 := Lib.hid HSc
    have HY9 := Lib.hid HYe
    clear kmw kmwc HSets hmap hfin kM9 k49 k59 k69 k6 km k4 k5 HH hB6 b0 HSx hx hxl HC HSc HYe h9 hB9 hw9
    refine wpIn_loop_ghost_k (fun k a' wr => ∃ (q : Nat) (ds : List Deferred) (v8 v9 v11 v21 v22 v23 v24 v25 v26 v27 v28 v29 v30 v31 v32 v33 v34 v35 v36 v37 v38 v39 v40 v41 v42 v43 v44 v45 v46 v47 v48 v49 v50 v51 v52 v53 v54 : Value), (k + q = ss.length ∧ Below w9.heap.size w9 wr ∧ Marks w9.heap.size ds wr ∧ NoR T need x cs scf ss q) ∧ a' = { tmps := List.toArray ((.agg #[.int .i64 (T : Int), .slice C cl c, .slice T' tl t, .int .i64 need, .slice S n' s]) :: (.slice X T xc) :: (.pointer (some ⟨w.heap.size, 0, none⟩)) :: undef :: (.pointer (some ⟨w.heap.size + 1, 0, none⟩)) :: (.pointer (some ⟨w.heap.size + 1 + 1, 0, none⟩)) :: (.pointer (some ⟨g6, 0, none⟩)) :: undef :: v8 :: v9 :: undef :: v11 :: u12 :: u13 :: u14 :: u15 :: u16 :: (.agg #[.int .i64 (T : Int), .slice C cl c, .slice T' tl t, .int .i64 need, .slice S n' s]) :: (.slice A9 ss.length c9) :: (.int .i64 (ss.length : Int)) :: (.int .i64 (q : Int)) :: v21 :: v22 :: v23 :: v24 :: v25 :: v26 :: v27 :: v28 :: v29 :: v30 :: v31 :: v32 :: v33 :: v34 :: v35 :: v36 :: v37 :: v38 :: v39 :: v40 :: v41 :: v42 :: v43 :: v44 :: v45 :: v46 :: v47 :: v48 :: v49 :: v50 :: v51 :: v52 :: v53 :: v54 :: []), defers := ds }) ss.length ?start ?round
    case start => exact ⟨0, [], undef, undef, undef, u21, u22, u23, u24, u25, u26, u27, u28, u29, u30, u31, u32, u33, u34, u35, u36, u37, u38, u39, u40, u41, u42, u43, u44, u45, u46, u47, u48, u49, u50, u51, u52, u53, u54, ⟨by omega, Below.refl _ _, Marks.nil _ _, fun j _ hj => absurd hj (by omega)⟩, rfl⟩
    case round =>
      rintro k a' wr ⟨q, ds, v8, v9, v11, v21, v22, v23, v24, v25, v26, v27, v28, v29, v30, v31, v32, v33, v34, v35, v36, v37, v38, v39, v40, v41, v42, v43, v44, v45, v46, v47, v48, v49, v50, v51, v52, v53, v54, ⟨hk, hB, hM, hNo⟩, rfl⟩ J KK hJ hKK
      have HM := Lib.hid hM
      have HNo := Lib.hid hNo
      have HB := Lib.hid hB
      have hk1 := Lib.hid hk
      obtain ⟨kM, k4, k5, k6⟩ := HK9.out wr hB
      have hsr := hB.size
      clear hM hNo hk
      by_cases hlt : q < ss.length
      · have hql : (q : Int) < (ss.length : Int) := by omega
        have hq64 : (q : Int) < 32 := by omega
        obtain ⟨b9, o9, hA9, hb9, hc9⟩ := HFin.out.1 q hlt
        have hcw := (hB.cell (p := ⟨b9, o9 + q, none⟩) hb9).trans (show w9.cell? ⟨b9, o9 + q, none⟩ = some (.slice ss[q].A ss[q].l.length ss[q].a) from by have := hc9 0 (by decide); rw [Nat.mul_one, Nat.add_zero] at this; exact this)
        have hsi := Lib.hid ((HFin.out.2 ss[q] (List.getElem_mem hlt)).later hB)
        clear hc9
        subst hA9
        have hsm : ss[q].l.length ≤ 1000 ∧ ss[q].l ∈ setsS T := by
          have : ss[q].l ∈ setsS T := by rw [← HSS.out]; exact List.mem_map_of_mem (List.getElem_mem hlt)
          have := setsS_mem this
          exact ⟨by omega, ‹_›⟩
        have HSM := Lib.hid hsm.2
        have hsl := hsm.1
        have HLT := Lib.hid hlt
        have HE : Hid (ss[q].l = ss[q].l) := Lib.hid rfl
        have HNx : Hid (firstR (fun y => wasB need (scf y)) (wasB need (scf x)) (fun s => listsS T (freeL x s) cs) ss[q].l = none → NoR T need x cs scf ss (q + 1)) := Lib.hid (fun h => HNo.out.succ hlt h)
        clear hsm
        have HV : Hid (∀ r, firstR (fun y => wasB need (scf y)) (wasB need (scf x)) (fun s => listsS T (freeL x s) cs) ss[q].l = some r → reasR (fun y => wasB need (scf y)) (wasB need (scf x)) (fun s => listsS T (freeL x s) cs) (setsS T) = some (ss[q].l, pickV ss[q].l r)) := Lib.hid (fun r h => by rw [← HSS.out]; exact HNo.out.found HLT.out h)
        generalize ss[q] = st at *
        obtain ⟨sl, sA, sa⟩ := st
        dsimp only at *
        clear hlt
        have k8 := Blk.new wr #[.slice sA sl.length sa] 26
        have bA := (Below.refl wr.heap.size wr).alloc (Nat.le_refl _) (.cells #[.slice sA sl.length sa] 26)
        have kMA := kM.alloc (.cells #[.slice sA sl.length sa] 26)
        gi_upto_region 5 with fail
        gi_cut [28] from 24 (fun p28 wx => ∃ (gm gs : Nat) (FA : Option Addr) (fc : Nat), p28 = .func (.func 45) #[] #[.pointer (some ⟨gm, 0, none⟩), .pointer (some ⟨gs, 0, none⟩)] ∧ Hid (wr.heap.size < gm ∧ wr.heap.size < gs ∧ Blk wx gm #[.int .i64 (T : Int), .slice C cl c, .slice T' tl t, .int .i64 need, .slice S n' s] 66 ∧ Blk wx gs #[.slice FA T fc] 58 ∧ FlatP 2 spnC wx (fun b => wr.heap.size < b) FA (freeL x sl) ∧ Below (wr.heap.size + 1) (wr.alloc (.cells #[.slice sA sl.length sa] 26)) wx))
        case first =>
          have hF1 := freeP_any x sl X sA xc sa (wr.alloc (.cells #[.slice sA sl.length sa] 26)).drew ((Hx.out wr HB.out).later bA.drew) (hsi.out.later bA.drew) (by rw [Hxl.out]; omega) hsl
          rw [Hxl.out] at hF1
          have HF1 := Lib.hid hF1
          have HLi := Lib.hid (fun SA sc W => lists_any T need C T' S SA cl c tl t n' s sc T W)
          have kMc := kMA.cell
          have k8c := k8.cell
          have HMA := Lib.hid kMA
          have HlT : Hid ((freeL x sl).length = T) := Lib.hid (by rw [freeL_len]; exact Hxl.out)
          have HbA : Hid (Below (wr.heap.size + 1) (wr.alloc (.cells #[.slice sA sl.length sa] 26)) (wr.alloc (.cells #[.slice sA sl.length sa] 26)).drew) := Lib.hid (Below.refl _ _).drew
          have HlA : Hid ((wr.alloc (.cells #[.slice sA sl.length sa] 26)).heap.size = wr.heap.size + 1) := Lib.hid (by simp)
          clear hF1 hsi hcw k8 kMA k4 k5 k6 kM bA
          refine wpIn_mono (wpIn_wide.2 ?_) then_false
          go_region_law (first
            | (go_simp; go_at_call 40; (with_reducible refine (HF1.out).mono ?_); rintro e w7 ⟨A7, c7, rfl, hown, h7⟩; have kM7 := HMA.out.drew.below h7 HMA.out.lt; have kM7c := kM7.cell)
            | (go_simp; go_at_call 37; (with_reducible refine (HLi.out _ _ _).mono ?_); rintro e w8 ⟨rfl, rfl⟩))
          all_goals first | (go_step; go_step; gi_meet) | (go_step; gi_meet) | gi_meet
          all_goals rw [← HlT.out] at hown
          all_goals have hown2 := (hown.alloc (.cells #[.int .i64 (T : Int), .slice C cl c, .slice T' tl t, .int .i64 need, .slice S n' s] 66)).alloc (.cells #[.slice A7 T c7] 58)
          all_goals have hz7 : wr.heap.size + 1 ≤ w7.heap.size := by have := h7.size; simpa using this
          all_goals exact ⟨w7.heap.size, w7.heap.size + 1, A7, c7, rfl, Lib.hid ⟨by omega, by omega, (Blk.new w7 _ _).alloc _, newAt' (w7.alloc _) _ _ (by simp), FlatP.of_own spnC_len (by decide) hown2 (fun b hb _ _ => by have h1 : (wr.alloc (.cells #[.slice sA sl.length sa] 26)).heap.size ≤ b := hb; rw [HlA.out] at h1; omega), (((HbA.out.trans (h7.mono (by simp))).alloc (by omega) _).alloc (by simp; omega) _)⟩⟩
        case rest =>
          obtain ⟨gm, gs, FA, fc, rfl, HH5⟩ := hcut
          obtain ⟨hgm, hgs, kgm, kgs, hfl, hB5⟩ := HH5.out
          have hWr : Below wr.heap.size wr wc := (bA.trans (hB5.mono (by simp)))
          have k8w := k8.below hB5 (by omega)
          have hBc := HB.out.trans (hWr.mono HB.out.size)
          obtain ⟨cM, c4, c5, c6⟩ := HK9.out wc hBc
          have hsi2 := hsi.out.later hWr
          have hfl2 : FlatP 2 spnC wc (fun b => b < wc.heap.size ∧ b ≠ w.heap.size + 1 ∧ b ≠ w.heap.size + 1 + 1) FA (freeL x sl) := hfl.imp (fun b hb hp => ⟨hb, by omega, by omega⟩)
          have hgs2 : gs < wc.heap.size := kgs.lt
          have hcs8 := k8w.lt
          have hszc := hWr.size
          have HC5 := Lib.hid (fun W (hb : Below wc.heap.size wc W) => HC9.out W (HBw.out W (hBc.trans (hb.mono (Nat.le_trans hsr hszc)))))
          have hlT : (freeL x sl).length = T := by rw [freeL_len]; exact Hxl.out
          have hs91 : w.heap.size + 3 ≤ w9.heap.size := by omega
          clear bA kMA k8 kM k4 k5 k6 hfl hB5 hcw
          gi_wp2_with fail
          refine wpIn_rangeFunc_ownM (F := Fence.wide) rfl (by omega) (gf := 45) (lb := #[.pointer (some ⟨gm, 0, none⟩), .pointer (some ⟨gs, 0, none⟩)]) rfl trivial (enters_of Tryz.func45 (by kernel_rfl) rfl)
            (lists1_stops 8 gm gs T T need C T' S FA cl c tl t n' s fc (freeL x sl) cs (fun b => b < wc.heap.size ∧ b ≠ w.heap.size + 1 ∧ b ≠ w.heap.size + 1 + 1) (by omega) hlT wc kgm kgs ⟨hgs2, by omega, by omega⟩ (fun b hb => hb.1) hfl2 (fun W hb => HC5.out W hb))
            (fun b hb => hb.1) (Below.refl _ _) (fun _ => rfl)
            (fun pre Wa => Below wc.heap.size wc Wa ∧ ∀ y ∈ pre, wasB need (scf (Vc.v y)) = wasB need (scf x))
            (fun cc M pre Wa => IxR need x scf (w.heap.size + 1) sl sA sa wc cc M pre Wa)
            ?own ?kx ?start ?a1 ?assign ?body ?done ?stop
          case own =>
            rintro pre A B ⟨h1, h2⟩ hb
            exact ⟨h1.trans hb, h2⟩
          case kx =>
            rintro cc M pre A B hh hk
            obtain ⟨rfl, pre0, y, VA, vc, hp, h1, h2, h3, h3', h4, h5, h6, h7⟩ := hh
            exact ⟨rfl, pre0, y, VA, vc, hp, h1, h2, h3, Nat.le_trans h3' hk.size, (hk.blk _ h4.lt (.inl (by omega))).trans h4, (hk.blk _ h5.lt (.inl (by omega))).trans h5, own_kx h6 hk (Nat.le_refl _), h7.trans (hk.imp' (fun b _ hb => .inl hb.1))⟩
          case start => exact ⟨Below.refl _ _, fun y hy => by cases hy⟩
          case a1 => exact fun y => { tmps := List.toArray ((.agg #[.int .i64 (T : Int), .slice C cl c, .slice T' tl t, .int .i64 need, .slice S n' s]) :: (.slice X T xc) :: (.pointer (some ⟨w.heap.size, 0, none⟩)) :: undef :: (.pointer (some ⟨w.heap.size + 1, 0, none⟩)) :: (.pointer (some ⟨w.heap.size + 1 + 1, 0, none⟩)) :: (.pointer (some ⟨g6, 0, none⟩)) :: undef :: (.pointer (some ⟨wr.heap.size, 0, none⟩)) :: (.slice y.A y.v.length y.c) :: undef :: v11 :: u12 :: u13 :: u14 :: u15 :: u16 :: (.agg #[.int .i64 (T : Int), .slice C cl c, .slice T' tl t, .int .i64 need, .slice S n' s]) :: (.slice (some ⟨b9, o9, none⟩) ss.length c9) :: (.int .i64 (ss.length : Int)) :: (.int .i64 (q : Int)) :: (.bool true) :: (.pointer (some ⟨b9, o9 + q, none⟩)) :: (.slice sA sl.length sa) :: u24 :: u25 :: u26 :: u27 :: (.func (.func 45) #[] #[.pointer (some ⟨gm, 0, none⟩), .pointer (some ⟨gs, 0, none⟩)]) :: (.slice y.A y.v.length y.c) :: u30 :: u31 :: u32 :: u33 :: u34 :: u35 :: u36 :: u37 :: u38 :: u39 :: u40 :: u41 :: u42 :: u43 :: u44 :: u45 :: u46 :: u47 :: u48 :: u49 :: u50 :: u51 :: u52 :: u53 :: u54 :: []), defers := [] }
          case assign =>
            intro la y Wa K hK
            simp only [vcC]
            gi_wp2
            exact hK
          case body =>
            rintro la pre y Wa hla ⟨r, hr⟩ ⟨q1, q2⟩ ⟨W0, ⟨hx0, hxT⟩, ⟨r0, hr0⟩, hk0⟩ hsz
            have hy := vc_keep hx0 hr0 hk0
            have cMa := cM.below q1 cM.lt
            have c4a := c4.below q1 c4.lt
            have c5a := c5.below q1 c5.lt
            have c6a := c6.below q1 c6.lt
            have c8a := k8w.below q1 k8w.lt
            have HScy := Lib.hid ((callsIn_wide (n := 6)).2 (HS9.out Wa.drew y.A y.c y.v (HBw.out _ ((hBc.trans (q1.mono (Nat.le_trans hsr hszc))).drew)) hy hxT))
            have HYy := Lib.hid (fun W => (callsIn_wide (n := 6)).2 (HY9.out W (scf y.v)))
            have HyT := Lib.hid hxT
            have Hy := Lib.hid hy
            clear hx0 hk0 hr0 hr hxT hy
            generalize wc = W5 at *
            generalize wr = WR at *
            gi_upto_region 7 with fail
            gi_cut [36] from 30 (fun p36 wx => p36 = .bool (wasB need (scf y.v) == wasB need (scf x)) ∧ Hid (Below Wa.heap.size Wa wx))
            case first =>
              have cMc := cMa.cell
              have c6c := c6a.cell
              generalize wasB need (scf y.v) = b1 at *
              generalize wasB need (scf x) = b2 at *
              refine wpIn_region_round rfl (by kernel_rfl) (by kernel_rfl) ?_
              refine wpAnyIn_take (i := 2) (v := ?_) rfl rfl (by kernel_rfl) (by kernel_rfl) (by kernel_rfl) (fun _ _ _ h => h) ⟨Or.inl ⟨by rfl, ?_⟩, fun _ => rfl⟩ ?_
              case refine_2 => intro w; go_simp; first | done | with_reducible rfl
              refine wpAnyIn_ready (rs := [0, 1, 5]) (by kernel_rfl) (by simp) ?_
              refine AllReadyIn.cons rfl (fun K hK => ?_) ?_
              · go_simp
                refine hK _ _ ?_; clear hK K
                refine wpAnyIn_ready (rs := [1, 5]) (by kernel_rfl) (by simp) ?_
                refine AllReadyIn.cons rfl (fun K hK => ?_) ?_
                · go_simp
                  refine hK _ _ ?_; clear hK K
                  refine wpAnyIn_ready (rs := [3, 5]) (by kernel_rfl) (by simp) ?_
                  refine AllReadyIn.cons rfl (fun K hK => ?_) ?_
                  · go_simp
                    gi_wp2_with (gi_at_call 19; refine (HScy.out).mono ?_; rintro e w7 ⟨rfl, h7⟩; have cM7 := (cMa.drew.below h7 cMa.lt).cell; have c67 := (c6a.drew.below h7 c6a.lt).cell; have HB7 := Lib.hid h7; have C67 := Lib.hid (c6a.drew.below h7 c6a.lt))
                    refine wpAnyIn_ready (rs := [4, 5]) (by kernel_rfl) (by simp) ?_
                    refine AllReadyIn.cons rfl (fun K hK => ?_) ?_
                    · go_simp
                      gi_wp2_with (gi_at_call 20; refine (HYy.out _).mono ?_; rintro e w8 ⟨rfl, h8⟩; have c68 := (C67.out.below h8 C67.out.lt).cell)
                      refine wpAnyIn_ready (rs := [5]) (by kernel_rfl) (by simp) ?_
                      refine AllReadyIn.cons rfl (fun K hK => ?_) ?_
                      · go_simp
                        refine hK _ _ ?_; clear hK K
                        refine wpAnyIn_ready (rs := [6]) (by kernel_rfl) (by simp) ?_
                        refine AllReadyIn.cons rfl (fun K hK => ?_) ?_
                        · go_simp
                          refine hK _ _ ?_; clear hK K
                          refine wpAnyIn_done (by kernel_rfl) ?_ _
                          first | (go_step; go_step; gi_meet) | (go_step; gi_meet) | gi_meet
                          exact ⟨rfl, Lib.hid (((Below.refl Wa.heap.size Wa).drew.trans h7).trans (h8.mono h7.size))⟩
                        exact AllReadyIn.nil
                      exact AllReadyIn.nil
                    refine AllReadyIn.cons rfl (fun K hK => ?_) ?_
                    · go_simp
                      refine hK _ _ ?_; clear hK K
                      refine wpAnyIn_ready (rs := [4]) (by kernel_rfl) (by simp) ?_
                      refine AllReadyIn.cons rfl (fun K hK => ?_) ?_
                      · go_simp
                        gi_wp2_with (gi_at_call 20; refine (HYy.out _).mono ?_; rintro e w8 ⟨rfl, h8⟩; have c68 := (C67.out.below h8 C67.out.lt).cell)
                        refine wpAnyIn_ready (rs := [6]) (by kernel_rfl) (by simp) ?_
                        refine AllReadyIn.cons rfl (fun K hK => ?_) ?_
                        · go_simp
                          refine hK _ _ ?_; clear hK K
                          refine wpAnyIn_done (by kernel_rfl) ?_ _
                          first | (go_step; go_step; gi_meet) | (go_step; gi_meet) | gi_meet
                          exact ⟨rfl, Lib.hid (((Below.refl Wa.heap.size Wa).drew.trans h7).trans (h8.mono h7.size))⟩
                        exact AllReadyIn.nil
                      exact AllReadyIn.nil
                    exact AllReadyIn.nil
                  refine AllReadyIn.cons rfl (fun K hK => ?_) ?_
                  · go_simp
                    refine hK _ _ ?_; clear hK K
                    refine wpAnyIn_ready (rs := [3]) (by kernel_rfl) (by simp) ?_
                    refine AllReadyIn.cons rfl (fun K hK => ?_) ?_
                    · go_simp
                      gi_wp2_with (gi_at_call 19; refine (HScy.out).mono ?_; rintro e w7 ⟨rfl, h7⟩; have cM7 := (cMa.drew.below h7 cMa.lt).cell; have c67 := (c6a.drew.below h7 c6a.lt).cell; have HB7 := Lib.hid h7; have C67 := Lib.hid (c6a.drew.below h7 c6a.lt))
                      refine wpAnyIn_ready (rs := [4]) (by kernel_rfl) (by simp) ?_
                      refine AllReadyIn.cons rfl (fun K hK => ?_) ?_
                      · go_simp
                        gi_wp2_with (gi_at_call 20; refine (HYy.out _).mono ?_; rintro e w8 ⟨rfl, h8⟩; have c68 := (C67.out.below h8 C67.out.lt).cell)
                        refine wpAnyIn_ready (rs := [6]) (by kernel_rfl) (by simp) ?_
                        refine AllReadyIn.cons rfl (fun K hK => ?_) ?_
                        · go_simp
                          refine hK _ _ ?_; clear hK K
                          refine wpAnyIn_done (by kernel_rfl) ?_ _
                          first | (go_step; go_step; gi_meet) | (go_step; gi_meet) | gi_meet
                          exact ⟨rfl, Lib.hid (((Below.refl Wa.heap.size Wa).drew.trans h7).trans (h8.mono h7.size))⟩
                        exact AllReadyIn.nil
                      exact AllReadyIn.nil
                    exact AllReadyIn.nil
                  exact AllReadyIn.nil
                refine AllReadyIn.cons rfl (fun K hK => ?_) ?_
                · go_simp
                  refine hK _ _ ?_; clear hK K
                  refine wpAnyIn_ready (rs := [1]) (by kernel_rfl) (by simp) ?_
                  refine AllReadyIn.cons rfl (fun K hK => ?_) ?_
                  · go_simp
                    refine hK _ _ ?_; clear hK K
                    refine wpAnyIn_ready (rs := [3]) (by kernel_rfl) (by simp) ?_
                    refine AllReadyIn.cons rfl (fun K hK => ?_) ?_
                    · go_simp
                      gi_wp2_with (gi_at_call 19; refine (HScy.out).mono ?_; rintro e w7 ⟨rfl, h7⟩; have cM7 := (cMa.drew.below h7 cMa.lt).cell; have c67 := (c6a.drew.below h7 c6a.lt).cell; have HB7 := Lib.hid h7; have C67 := Lib.hid (c6a.drew.below h7 c6a.lt))
                      refine wpAnyIn_ready (rs := [4]) (by kernel_rfl) (by simp) ?_
                      refine AllReadyIn.cons rfl (fun K hK => ?_) ?_
                      · go_simp
                        gi_wp2_with (gi_at_call 20; refine (HYy.out _).mono ?_; rintro e w8 ⟨rfl, h8⟩; have c68 := (C67.out.below h8 C67.out.lt).cell)
                        refine wpAnyIn_ready (rs := [6]) (by kernel_rfl) (by simp) ?_
                        refine AllReadyIn.cons rfl (fun K hK => ?_) ?_
                        · go_simp
                          refine hK _ _ ?_; clear hK K
                          refine wpAnyIn_done (by kernel_rfl) ?_ _
                          first | (go_step; go_step; gi_meet) | (go_step; gi_meet) | gi_meet
                          exact ⟨rfl, Lib.hid (((Below.refl Wa.heap.size Wa).drew.trans h7).trans (h8.mono h7.size))⟩
                        exact AllReadyIn.nil
                      exact AllReadyIn.nil
                    exact AllReadyIn.nil
                  exact AllReadyIn.nil
                exact AllReadyIn.nil
              refine AllReadyIn.cons rfl (fun K hK => ?_) ?_
              · go_simp
                refine hK _ _ ?_; clear hK K
                refine wpAnyIn_ready (rs := [0, 3, 5]) (by kernel_rfl) (by simp) ?_
                refine AllReadyIn.cons rfl (fun K hK => ?_) ?_
                · go_simp
                  refine hK _ _ ?_; clear hK K
                  refine wpAnyIn_ready (rs := [3, 5]) (by kernel_rfl) (by simp) ?_
                  refine AllReadyIn.cons rfl (fun K hK => ?_) ?_
                  · go_simp
                    gi_wp2_with (gi_at_call 19; refine (HScy.out).mono ?_; rintro e w7 ⟨rfl, h7⟩; have cM7 := (cMa.drew.below h7 cMa.lt).cell; have c67 := (c6a.drew.below h7 c6a.lt).cell; have HB7 := Lib.hid h7; have C67 := Lib.hid (c6a.drew.below h7 c6a.lt))
                    refine wpAnyIn_ready (rs := [4, 5]) (by kernel_rfl) (by simp) ?_
                    refine AllReadyIn.cons rfl (fun K hK => ?_) ?_
                    · go_simp
                      gi_wp2_with (gi_at_call 20; refine (HYy.out _).mono ?_; rintro e w8 ⟨rfl, h8⟩; have c68 := (C67.out.below h8 C67.out.lt).cell)
                      refine wpAnyIn_ready (rs := [5]) (by kernel_rfl) (by simp) ?_
                      refine AllReadyIn.cons rfl (fun K hK => ?_) ?_
                      · go_simp
                        refine hK _ _ ?_; clear hK K
                        refine wpAnyIn_ready (rs := [6]) (by kernel_rfl) (by simp) ?_
                        refine AllReadyIn.cons rfl (fun K hK => ?_) ?_
                        · go_simp
                          refine hK _ _ ?_; clear hK K
                          refine wpAnyIn_done (by kernel_rfl) ?_ _
                          first | (go_step; go_step; gi_meet) | (go_step; gi_meet) | gi_meet
                          exact ⟨rfl, Lib.hid (((Below.refl Wa.heap.size Wa).drew.trans h7).trans (h8.mono h7.size))⟩
                        exact AllReadyIn.nil
                      exact AllReadyIn.nil
                    refine AllReadyIn.cons rfl (fun K hK => ?_) ?_
                    · go_simp
                      refine hK _ _ ?_; clear hK K
                      refine wpAnyIn_ready (rs := [4]) (by kernel_rfl) (by simp) ?_
                      refine AllReadyIn.cons rfl (fun K hK => ?_) ?_
                      · go_simp
                        gi_wp2_with (gi_at_call 20; refine (HYy.out _).mono ?_; rintro e w8 ⟨rfl, h8⟩; have c68 := (C67.out.below h8 C67.out.lt).cell)
                        refine wpAnyIn_ready (rs := [6]) (by kernel_rfl) (by simp) ?_
                        refine AllReadyIn.cons rfl (fun K hK => ?_) ?_
                        · go_simp
                          refine hK _ _ ?_; clear hK K
                          refine wpAnyIn_done (by kernel_rfl) ?_ _
                          first | (go_step; go_step; gi_meet) | (go_step; gi_meet) | gi_meet
                          exact ⟨rfl, Lib.hid (((Below.refl Wa.heap.size Wa).drew.trans h7).trans (h8.mono h7.size))⟩
                        exact AllReadyIn.nil
                      exact AllReadyIn.nil
                    exact AllReadyIn.nil
                  refine AllReadyIn.cons rfl (fun K hK => ?_) ?_
                  · go_simp
                    refine hK _ _ ?_; clear hK K
                    refine wpAnyIn_ready (rs := [3]) (by kernel_rfl) (by simp) ?_
                    refine AllReadyIn.cons rfl (fun K hK => ?_) ?_
                    · go_simp
                      gi_wp2_with (gi_at_call 19; refine (HScy.out).mono ?_; rintro e w7 ⟨rfl, h7⟩; have cM7 := (cMa.drew.below h7 cMa.lt).cell; have c67 := (c6a.drew.below h7 c6a.lt).cell; have HB7 := Lib.hid h7; have C67 := Lib.hid (c6a.drew.below h7 c6a.lt))
                      refine wpAnyIn_ready (rs := [4]) (by kernel_rfl) (by simp) ?_
                      refine AllReadyIn.cons rfl (fun K hK => ?_) ?_
                      · go_simp
                        gi_wp2_with (gi_at_call 20; refine (HYy.out _).mono ?_; rintro e w8 ⟨rfl, h8⟩; have c68 := (C67.out.below h8 C67.out.lt).cell)
                        refine wpAnyIn_ready (rs := [6]) (by kernel_rfl) (by simp) ?_
                        refine AllReadyIn.cons rfl (fun K hK => ?_) ?_
                        · go_simp
                          refine hK _ _ ?_; clear hK K
                          refine wpAnyIn_done (by kernel_rfl) ?_ _
                          first | (go_step; go_step; gi_meet) | (go_step; gi_meet) | gi_meet
                          exact ⟨rfl, Lib.hid (((Below.refl Wa.heap.size Wa).drew.trans h7).trans (h8.mono h7.size))⟩
                        exact AllReadyIn.nil
                      exact AllReadyIn.nil
                    exact AllReadyIn.nil
                  exact AllReadyIn.nil
                refine AllReadyIn.cons rfl (fun K hK => ?_) ?_
                · go_simp
                  gi_wp2_with (gi_at_call 19; refine (HScy.out).mono ?_; rintro e w7 ⟨rfl, h7⟩; have cM7 := (cMa.drew.below h7 cMa.lt).cell; have c67 := (c6a.drew.below h7 c6a.lt).cell; have HB7 := Lib.hid h7; have C67 := Lib.hid (c6a.drew.below h7 c6a.lt))
                  refine wpAnyIn_ready (rs := [0, 5]) (by kernel_rfl) (by simp) ?_
                  refine AllReadyIn.cons rfl (fun K hK => ?_) ?_
                  · go_simp
                    refine hK _ _ ?_; clear hK K
                    refine wpAnyIn_ready (rs := [4, 5]) (by kernel_rfl) (by simp) ?_
                    refine AllReadyIn.cons rfl (fun K hK => ?_) ?_
                    · go_simp
                      gi_wp2_with (gi_at_call 20; refine (HYy.out _).mono ?_; rintro e w8 ⟨rfl, h8⟩; have c68 := (C67.out.below h8 C67.out.lt).cell)
                      refine wpAnyIn_ready (rs := [5]) (by kernel_rfl) (by simp) ?_
                      refine AllReadyIn.cons rfl (fun K hK => ?_) ?_
                      · go_simp
                        refine hK _ _ ?_; clear hK K
                        refine wpAnyIn_ready (rs := [6]) (by kernel_rfl) (by simp) ?_
                        refine AllReadyIn.cons rfl (fun K hK => ?_) ?_
                        · go_simp
                          refine hK _ _ ?_; clear hK K
                          refine wpAnyIn_done (by kernel_rfl) ?_ _
                          first | (go_step; go_step; gi_meet) | (go_step; gi_meet) | gi_meet
                          exact ⟨rfl, Lib.hid (((Below.refl Wa.heap.size Wa).drew.trans h7).trans (h8.mono h7.size))⟩
                        exact AllReadyIn.nil
                      exact AllReadyIn.nil
                    refine AllReadyIn.cons rfl (fun K hK => ?_) ?_
                    · go_simp
                      refine hK _ _ ?_; clear hK K
                      refine wpAnyIn_ready (rs := [4]) (by kernel_rfl) (by simp) ?_
                      refine AllReadyIn.cons rfl (fun K hK => ?_) ?_
                      · go_simp
                        gi_wp2_with (gi_at_call 20; refine (HYy.out _).mono ?_; rintro e w8 ⟨rfl, h8⟩; have c68 := (C67.out.below h8 C67.out.lt).cell)
                        refine wpAnyIn_ready (rs := [6]) (by kernel_rfl) (by simp) ?_
                        refine AllReadyIn.cons rfl (fun K hK => ?_) ?_
                        · go_simp
                          refine hK _ _ ?_; clear hK K
                          refine wpAnyIn_done (by kernel_rfl) ?_ _
                          first | (go_step; go_step; gi_meet) | (go_step; gi_meet) | gi_meet
                          exact ⟨rfl, Lib.hid (((Below.refl Wa.heap.size Wa).drew.trans h7).trans (h8.mono h7.size))⟩
                        exact AllReadyIn.nil
                      exact AllReadyIn.nil
                    exact AllReadyIn.nil
                  refine AllReadyIn.cons rfl (fun K hK => ?_) ?_
                  · go_simp
                    refine hK _ _ ?_; clear hK K
                    refine wpAnyIn_ready (rs := [0]) (by kernel_rfl) (by simp) ?_
                    refine AllReadyIn.cons rfl (fun K hK => ?_) ?_
                    · go_simp
                      refine hK _ _ ?_; clear hK K
                      refine wpAnyIn_ready (rs := [4]) (by kernel_rfl) (by simp) ?_
                      refine AllReadyIn.cons rfl (fun K hK => ?_) ?_
                      · go_simp
                        gi_wp2_with (gi_at_call 20; refine (HYy.out _).mono ?_; rintro e w8 ⟨rfl, h8⟩; have c68 := (C67.out.below h8 C67.out.lt).cell)
                        refine wpAnyIn_ready (rs := [6]) (by kernel_rfl) (by simp) ?_
                        refine AllReadyIn.cons rfl (fun K hK => ?_) ?_
                        · go_simp
                          refine hK _ _ ?_; clear hK K
                          refine wpAnyIn_done (by kernel_rfl) ?_ _
                          first | (go_step; go_step; gi_meet) | (go_step; gi_meet) | gi_meet
                          exact ⟨rfl, Lib.hid (((Below.refl Wa.heap.size Wa).drew.trans h7).trans (h8.mono h7.size))⟩
                        exact AllReadyIn.nil
                      exact AllReadyIn.nil
                    exact AllReadyIn.nil
                  exact AllReadyIn.nil
                refine AllReadyIn.cons rfl (fun K hK => ?_) ?_
                · go_simp
                  refine hK _ _ ?_; clear hK K
                  refine wpAnyIn_ready (rs := [0, 3]) (by kernel_rfl) (by simp) ?_
                  refine AllReadyIn.cons rfl (fun K hK => ?_) ?_
                  · go_simp
                    refine hK _ _ ?_; clear hK K
                    refine wpAnyIn_ready (rs := [3]) (by kernel_rfl) (by simp) ?_
                    refine AllReadyIn.cons rfl (fun K hK => ?_) ?_
                    · go_simp
                      gi_wp2_with (gi_at_call 19; refine (HScy.out).mono ?_; rintro e w7 ⟨rfl, h7⟩; have cM7 := (cMa.drew.below h7 cMa.lt).cell; have c67 := (c6a.drew.below h7 c6a.lt).cell; have HB7 := Lib.hid h7; have C67 := Lib.hid (c6a.drew.below h7 c6a.lt))
                      refine wpAnyIn_ready (rs := [4]) (by kernel_rfl) (by simp) ?_
                      refine AllReadyIn.cons rfl (fun K hK => ?_) ?_
                      · go_simp
                        gi_wp2_with (gi_at_call 20; refine (HYy.out _).mono ?_; rintro e w8 ⟨rfl, h8⟩; have c68 := (C67.out.below h8 C67.out.lt).cell)
                        refine wpAnyIn_ready (rs := [6]) (by kernel_rfl) (by simp) ?_
                        refine AllReadyIn.cons rfl (fun K hK => ?_) ?_
                        · go_simp
                          refine hK _ _ ?_; clear hK K
                          refine wpAnyIn_done (by kernel_rfl) ?_ _
                          first | (go_step; go_step; gi_meet) | (go_step; gi_meet) | gi_meet
                          exact ⟨rfl, Lib.hid (((Below.refl Wa.heap.size Wa).drew.trans h7).trans (h8.mono h7.size))⟩
                        exact AllReadyIn.nil
                      exact AllReadyIn.nil
                    exact AllReadyIn.nil
                  refine AllReadyIn.cons rfl (fun K hK => ?_) ?_
                  · go_simp
                    gi_wp2_with (gi_at_call 19; refine (HScy.out).mono ?_; rintro e w7 ⟨rfl, h7⟩; have cM7 := (cMa.drew.below h7 cMa.lt).cell; have c67 := (c6a.drew.below h7 c6a.lt).cell; have HB7 := Lib.hid h7; have C67 := Lib.hid (c6a.drew.below h7 c6a.lt))
                    refine wpAnyIn_ready (rs := [0]) (by kernel_rfl) (by simp) ?_
                    refine AllReadyIn.cons rfl (fun K hK => ?_) ?_
                    · go_simp
                      refine hK _ _ ?_; clear hK K
                      refine wpAnyIn_ready (rs := [4]) (by kernel_rfl) (by simp) ?_
                      refine AllReadyIn.cons rfl (fun K hK => ?_) ?_
                      · go_simp
                        gi_wp2_with (gi_at_call 20; refine (HYy.out _).mono ?_; rintro e w8 ⟨rfl, h8⟩; have c68 := (C67.out.below h8 C67.out.lt).cell)
                        refine wpAnyIn_ready (rs := [6]) (by kernel_rfl) (by simp) ?_
                        refine AllReadyIn.cons rfl (fun K hK => ?_) ?_
                        · go_simp
                          refine hK _ _ ?_; clear hK K
                          refine wpAnyIn_done (by kernel_rfl) ?_ _
                          first | (go_step; go_step; gi_meet) | (go_step; gi_meet) | gi_meet
                          exact ⟨rfl, Lib.hid (((Below.refl Wa.heap.size Wa).drew.trans h7).trans (h8.mono h7.size))⟩
                        exact AllReadyIn.nil
                      exact AllReadyIn.nil
                    exact AllReadyIn.nil
                  exact AllReadyIn.nil
                exact AllReadyIn.nil
              refine AllReadyIn.cons rfl (fun K hK => ?_) ?_
              · go_simp
                refine hK _ _ ?_; clear hK K
                refine wpAnyIn_ready (rs := [0, 1]) (by kernel_rfl) (by simp) ?_
                refine AllReadyIn.cons rfl (fun K hK => ?_) ?_
                · go_simp
                  refine hK _ _ ?_; clear hK K
                  refine wpAnyIn_ready (rs := [1]) (by kernel_rfl) (by simp) ?_
                  refine AllReadyIn.cons rfl (fun K hK => ?_) ?_
                  · go_simp
                    refine hK _ _ ?_; clear hK K
                    refine wpAnyIn_ready (rs := [3]) (by kernel_rfl) (by simp) ?_
                    refine AllReadyIn.cons rfl (fun K hK => ?_) ?_
                    · go_simp
                      gi_wp2_with (gi_at_call 19; refine (HScy.out).mono ?_; rintro e w7 ⟨rfl, h7⟩; have cM7 := (cMa.drew.below h7 cMa.lt).cell; have c67 := (c6a.drew.below h7 c6a.lt).cell; have HB7 := Lib.hid h7; have C67 := Lib.hid (c6a.drew.below h7 c6a.lt))
                      refine wpAnyIn_ready (rs := [4]) (by kernel_rfl) (by simp) ?_
                      refine AllReadyIn.cons rfl (fun K hK => ?_) ?_
                      · go_simp
                        gi_wp2_with (gi_at_call 20; refine (HYy.out _).mono ?_; rintro e w8 ⟨rfl, h8⟩; have c68 := (C67.out.below h8 C67.out.lt).cell)
                        refine wpAnyIn_ready (rs := [6]) (by kernel_rfl) (by simp) ?_
                        refine AllReadyIn.cons rfl (fun K hK => ?_) ?_
                        · go_simp
                          refine hK _ _ ?_; clear hK K
                          refine wpAnyIn_done (by kernel_rfl) ?_ _
                          first | (go_step; go_step; gi_meet) | (go_step; gi_meet) | gi_meet
                          exact ⟨rfl, Lib.hid (((Below.refl Wa.heap.size Wa).drew.trans h7).trans (h8.mono h7.size))⟩
                        exact AllReadyIn.nil
                      exact AllReadyIn.nil
                    exact AllReadyIn.nil
                  exact AllReadyIn.nil
                refine AllReadyIn.cons rfl (fun K hK => ?_) ?_
                · go_simp
                  refine hK _ _ ?_; clear hK K
                  refine wpAnyIn_ready (rs := [0, 3]) (by kernel_rfl) (by simp) ?_
                  refine AllReadyIn.cons rfl (fun K hK => ?_) ?_
                  · go_simp
                    refine hK _ _ ?_; clear hK K
                    refine wpAnyIn_ready (rs := [3]) (by kernel_rfl) (by simp) ?_
                    refine AllReadyIn.cons rfl (fun K hK => ?_) ?_
                    · go_simp
                      gi_wp2_with (gi_at_call 19; refine (HScy.out).mono ?_; rintro e w7 ⟨rfl, h7⟩; have cM7 := (cMa.drew.below h7 cMa.lt).cell; have c67 := (c6a.drew.below h7 c6a.lt).cell; have HB7 := Lib.hid h7; have C67 := Lib.hid (c6a.drew.below h7 c6a.lt))
                      refine wpAnyIn_ready (rs := [4]) (by kernel_rfl) (by simp) ?_
                      refine AllReadyIn.cons rfl (fun K hK => ?_) ?_
                      · go_simp
                        gi_wp2_with (gi_at_call 20; refine (HYy.out _).mono ?_; rintro e w8 ⟨rfl, h8⟩; have c68 := (C67.out.below h8 C67.out.lt).cell)
                        refine wpAnyIn_ready (rs := [6]) (by kernel_rfl) (by simp) ?_
                        refine AllReadyIn.cons rfl (fun K hK => ?_) ?_
                        · go_simp
                          refine hK _ _ ?_; clear hK K
                          refine wpAnyIn_done (by kernel_rfl) ?_ _
                          first | (go_step; go_step; gi_meet) | (go_step; gi_meet) | gi_meet
                          exact ⟨rfl, Lib.hid (((Below.refl Wa.heap.size Wa).drew.trans h7).trans (h8.mono h7.size))⟩
                        exact AllReadyIn.nil
                      exact AllReadyIn.nil
                    exact AllReadyIn.nil
                  refine AllReadyIn.cons rfl (fun K hK => ?_) ?_
                  · go_simp
                    gi_wp2_with (gi_at_call 19; refine (HScy.out).mono ?_; rintro e w7 ⟨rfl, h7⟩; have cM7 := (cMa.drew.below h7 cMa.lt).cell; have c67 := (c6a.drew.below h7 c6a.lt).cell; have HB7 := Lib.hid h7; have C67 := Lib.hid (c6a.drew.below h7 c6a.lt))
                    refine wpAnyIn_ready (rs := [0]) (by kernel_rfl) (by simp) ?_
                    refine AllReadyIn.cons rfl (fun K hK => ?_) ?_
                    · go_simp
                      refine hK _ _ ?_; clear hK K
                      refine wpAnyIn_ready (rs := [4]) (by kernel_rfl) (by simp) ?_
                      refine AllReadyIn.cons rfl (fun K hK => ?_) ?_
                      · go_simp
                        gi_wp2_with (gi_at_call 20; refine (HYy.out _).mono ?_; rintro e w8 ⟨rfl, h8⟩; have c68 := (C67.out.below h8 C67.out.lt).cell)
                        refine wpAnyIn_ready (rs := [6]) (by kernel_rfl) (by simp) ?_
                        refine AllReadyIn.cons rfl (fun K hK => ?_) ?_
                        · go_simp
                          refine hK _ _ ?_; clear hK K
                          refine wpAnyIn_done (by kernel_rfl) ?_ _
                          first | (go_step; go_step; gi_meet) | (go_step; gi_meet) | gi_meet
                          exact ⟨rfl, Lib.hid (((Below.refl Wa.heap.size Wa).drew.trans h7).trans (h8.mono h7.size))⟩
                        exact AllReadyIn.nil
                      exact AllReadyIn.nil
                    exact AllReadyIn.nil
                  exact AllReadyIn.nil
                exact AllReadyIn.nil
              exact AllReadyIn.nil
            case rest =>
              obtain ⟨rfl, HH7⟩ := hcut
              have h7 := HH7.out
              by_cases hyy : wasB need (scf y.v) = wasB need (scf x)
              · have hbq : (wasB need (scf y.v) == wasB need (scf x)) = true := by simpa using hyy
                have HQ7 : Hid ((∀ z ∈ pre ++ [y], wasB need (scf z.v) = wasB need (scf x))) := Lib.hid (fun z hz => by
                  rcases List.mem_append.1 hz with hz | hz
                  · exact q2 z hz
                  · rw [List.mem_singleton] at hz; subst hz; exact hyy)
                rw [hbq]
                have H7 := Lib.hid h7
                clear hyy hbq HH7 h7
                gi_wp2_with fail
                exact ⟨Kpt.of_all H7.out, q1.trans (H7.out.mono hsz), HQ7.out⟩
              · have hbq : (wasB need (scf y.v) == wasB need (scf x)) = false := by simpa using hyy
                have HNy := Lib.hid hyy
                rw [hbq]
                have H7 := Lib.hid h7
                have c87 := c8a.below h7 c8a.lt
                have c87c := c87.cell
                have c57 := c5a.below h7 c5a.lt
                have c47 := c4a.below h7 c4a.lt
                have hs7 := h7.size
                have HSI := Lib.hid (fun i (hi : i < sl.length) => sets_cell (hsi2.later q1) c5a hi)
                have HYI := Lib.hid (fun k (hk : k < y.v.length) => sets_cell Hy.out c5a hk)
                clear hyy hbq HH7 c4 c5 c6 cM c5a c4a c6a cMa c8a hsi2
                gi_wp2_with fail
                generalize y.A = oA at *
                gi_loopw [39] (fun ii wr => ∃ (i : Nat) (VA : Option Addr) (vc : Nat), i ≤ sl.length ∧ ii = .int .i64 i ∧ Hid (Blk wr (w.heap.size + 1 + 1) #[.slice VA i vc] 26 ∧ wr.ownsRow wc.heap.size 3 1 (.slice VA i vc) i ((pickV (sl.take i) y.v).flatMap intC) ∧ Kpt (fun b => b ≠ w.heap.size + 1 + 1) wc wr)) (fun ii _ => sl.length - (vInt ii).toNat)
                case atStart => exact ⟨0, none, 0, Nat.zero_le _, rfl, Lib.hid ⟨c57, World.ownsRow_nil _ _ _ _, Kpt.refl _ _⟩⟩
                case round =>
                  obtain ⟨i, VA, vc, hi, rfl, hR⟩ := hrel
                  obtain ⟨kb5, hO, hK5⟩ := hR.out
                  have hs8 := hK5.size
                  by_cases hlt : i < sl.length
                  · have hil : (i : Int) < (sl.length : Int) := by omega
                    obtain ⟨kn, hkn, hkT⟩ := (setsS_mem HSM.out).2 sl[i] (List.getElem_mem hlt)
                    have hkT2 : kn < y.v.length := by rw [HyT.out]; exact hkT
                    obtain ⟨s1, s2, rfl, hs1, hs1b, sc1⟩ := HSI.out i hlt
                    obtain ⟨y1, y2, rfl, hy1, hy1b, yc1⟩ := HYI.out kn hkT2
                    have d1 := (hK5.cell (o := s2 + i) (Nat.lt_of_lt_of_le hs1 hs7) hs1b).trans ((h7.cell (p := ⟨s1, s2 + i, none⟩) hs1).trans sc1)
                    have d2 := (hK5.cell (o := y2 + kn) (Nat.lt_of_lt_of_le hy1 hs7) hy1b).trans ((h7.cell (p := ⟨y1, y2 + kn, none⟩) hy1).trans yc1)
                    have HPT : Hid (pickV (sl.take (i + 1)) y.v = pickV (sl.take i) y.v ++ [y.v[kn]]) := Lib.hid (by rw [pickV_take hlt, hkn]; simp [hkT2])
                    rw [hkn] at d1
                    have hkl : (kn : Int) < (y.v.length : Int) := by omega
                    have kbc := kb5.cell
                    have kba := fun o : Obj => (kb5.alloc o).cell
                    have hpl : (pickV (sl.take i) y.v).length = i := by unfold pickV; rw [List.length_map, List.length_take]; omega
                    generalize y.v[kn] = vv at *
                    have hoA := (own_below hO (Below.refl _ _).drew).alloc (.cells #[.int .i64 vv] 3)
                    have HB5 : Hid (∀ w6 row, (wr.drew.alloc (.cells #[.int .i64 vv] 3)).grownBy w6 row → (∀ g, row = some g → wc.heap.size ≤ g) → Blk w6 (w.heap.size + 1 + 1) #[.slice VA i vc] 26) := Lib.hid (fun w6 row hg hr => (hg.block _ (kb5.drew.alloc _).lt (fun e => by have := hr _ e.symm; omega)).trans (kb5.drew.alloc _))
                    have HK5 := Lib.hid hK5
                    clear hR kb5 hO hK5 hkn hpl c57 c47
                    gi_upto_region 11 with fail
                    refine wpIn_region_round rfl (by kernel_rfl) (by kernel_rfl) ?_
                    refine wpAnyIn_take (i := 1) (v := ?_) rfl rfl (by kernel_rfl) (by kernel_rfl) (by kernel_rfl) (fun _ _ _ h => h) ⟨Or.inl ⟨by rfl, ?_⟩, fun _ => rfl⟩ ?_
                    case refine_2 => intro w; go_simp; first | done | with_reducible rfl
                    refine wpAnyIn_take (i := 2) (v := ?_) rfl rfl (by kernel_rfl) (by kernel_rfl) (by kernel_rfl) (fun _ _ _ h => h) ⟨Or.inl ⟨by rfl, ?_⟩, fun _ => rfl⟩ ?_
                    case refine_2 => intro w; go_simp; first | done | with_reducible rfl
                    refine wpAnyIn_take (i := 3) (v := ?_) rfl rfl (by kernel_rfl) (by kernel_rfl) (by kernel_rfl) (fun _ _ _ h => h) ⟨Or.inl ⟨by rfl, ?_⟩, fun _ => rfl⟩ ?_
                    case refine_2 => intro w; go_simp; first | done | with_reducible rfl
                    refine wpAnyIn_ready (rs := [0, 4]) (by kernel_rfl) (by simp) ?_
                    refine AllReadyIn.cons rfl (fun K hK => ?_) ?_
                    · go_simp
                      refine hK _ _ ?_; clear hK K
                      refine wpAnyIn_ready (rs := [4]) (by kernel_rfl) (by simp) ?_
                      refine AllReadyIn.cons rfl (fun K hK => ?_) ?_
                      · go_simp
                        refine hK _ _ ?_; clear hK K
                        refine wpAnyIn_ready (rs := [5]) (by kernel_rfl) (by simp) ?_
                        refine AllReadyIn.cons rfl (fun K hK => ?_) ?_
                        · go_simp
                          refine hK _ _ ?_; clear hK K
                          refine wpAnyIn_ready (rs := [6]) (by kernel_rfl) (by simp) ?_
                          refine AllReadyIn.cons rfl (fun K hK => ?_) ?_
                          · refine stepIn_append_own rfl hfn rfl (.tmp 43) (.tmp 48) 26 rfl wc.heap.size 3 i4 _ 1 8 Tryz.underlying26 hi4 hq0 hq1 hq2 rfl (by decide) (.slice VA i vc) i ((pickV (sl.take i) y.v).flatMap intC) (by rfl) hoA ⟨wr.heap.size, 0, none⟩ 1 1 (intC vv) (by rfl) rfl (one_new wr.drew vv 3) (intC_one _) (by unfold maxLen; omega) (by omega) (by simp; omega) ?_; intro v' w6 hown6 hg6 ho6; obtain ⟨A4, c4', rfl⟩ := own_slice hown6; have kb6 := HB5.out _ _ hg6 (fun g e => (hoA.lt g e).1); have kb6c := kb6.cell; have kb6f := kb6.free; refine hK _ _ ?_; clear hK K
                            refine wpAnyIn_ready (rs := [7]) (by kernel_rfl) (by simp) ?_
                            refine AllReadyIn.cons rfl (fun K hK => ?_) ?_
                            · go_simp
                              refine hK _ _ ?_; clear hK K
                              refine wpAnyIn_done (by kernel_rfl) ?_ _
                              gi_wp2_with fail
                              go_roundw
                              case rel => exact ⟨i + 1, A4, c4', by omega, by go_num, Lib.hid ⟨by simpa using kb6.set 0 (.slice A4 (i + 1) c4'), by rw [HPT.out, List.flatMap_append]; exact own_far (by simpa using hown6) (by show w.heap.size + 1 + 1 < wc.heap.size; omega) _, (((HK5.out.trans (Kpt.of_all ((Below.refl _ wr).drew.alloc (Nat.le_refl _) _))).own_above hg6 (fun g e => (hoA.lt g e).1)).trans (Kpt.set (p := ⟨w.heap.size + 1 + 1, 0, none⟩) (fun h => h rfl) _))⟩⟩
                              case measure => (simp [vInt]; omega)
                            exact AllReadyIn.nil
                          exact AllReadyIn.nil
                        exact AllReadyIn.nil
                      exact AllReadyIn.nil
                    refine AllReadyIn.cons rfl (fun K hK => ?_) ?_
                    · go_simp
                      refine hK _ _ ?_; clear hK K
                      refine wpAnyIn_ready (rs := [0, 5]) (by kernel_rfl) (by simp) ?_
                      refine AllReadyIn.cons rfl (fun K hK => ?_) ?_
                      · go_simp
                        refine hK _ _ ?_; clear hK K
                        refine wpAnyIn_ready (rs := [5]) (by kernel_rfl) (by simp) ?_
                        refine AllReadyIn.cons rfl (fun K hK => ?_) ?_
                        · go_simp
                          refine hK _ _ ?_; clear hK K
                          refine wpAnyIn_ready (rs := [6]) (by kernel_rfl) (by simp) ?_
                          refine AllReadyIn.cons rfl (fun K hK => ?_) ?_
                          · refine stepIn_append_own rfl hfn rfl (.tmp 43) (.tmp 48) 26 rfl wc.heap.size 3 i4 _ 1 8 Tryz.underlying26 hi4 hq0 hq1 hq2 rfl (by decide) (.slice VA i vc) i ((pickV (sl.take i) y.v).flatMap intC) (by rfl) hoA ⟨wr.heap.size, 0, none⟩ 1 1 (intC vv) (by rfl) rfl (one_new wr.drew vv 3) (intC_one _) (by unfold maxLen; omega) (by omega) (by simp; omega) ?_; intro v' w6 hown6 hg6 ho6; obtain ⟨A4, c4', rfl⟩ := own_slice hown6; have kb6 := HB5.out _ _ hg6 (fun g e => (hoA.lt g e).1); have kb6c := kb6.cell; have kb6f := kb6.free; refine hK _ _ ?_; clear hK K
                            refine wpAnyIn_ready (rs := [7]) (by kernel_rfl) (by simp) ?_
                            refine AllReadyIn.cons rfl (fun K hK => ?_) ?_
                            · go_simp
                              refine hK _ _ ?_; clear hK K
                              refine wpAnyIn_done (by kernel_rfl) ?_ _
                              gi_wp2_with fail
                              go_roundw
                              case rel => exact ⟨i + 1, A4, c4', by omega, by go_num, Lib.hid ⟨by simpa using kb6.set 0 (.slice A4 (i + 1) c4'), by rw [HPT.out, List.flatMap_append]; exact own_far (by simpa using hown6) (by show w.heap.size + 1 + 1 < wc.heap.size; omega) _, (((HK5.out.trans (Kpt.of_all ((Below.refl _ wr).drew.alloc (Nat.le_refl _) _))).own_above hg6 (fun g e => (hoA.lt g e).1)).trans (Kpt.set (p := ⟨w.heap.size + 1 + 1, 0, none⟩) (fun h => h rfl) _))⟩⟩
                              case measure => (simp [vInt]; omega)
                            exact AllReadyIn.nil
                          exact AllReadyIn.nil
                        exact AllReadyIn.nil
                      refine AllReadyIn.cons rfl (fun K hK => ?_) ?_
                      · go_simp
                        refine hK _ _ ?_; clear hK K
                        refine wpAnyIn_ready (rs := [0]) (by kernel_rfl) (by simp) ?_
                        refine AllReadyIn.cons rfl (fun K hK => ?_) ?_
                        · go_simp
                          refine hK _ _ ?_; clear hK K
                          refine wpAnyIn_ready (rs := [6]) (by kernel_rfl) (by simp) ?_
                          refine AllReadyIn.cons rfl (fun K hK => ?_) ?_
                          · refine stepIn_append_own rfl hfn rfl (.tmp 43) (.tmp 48) 26 rfl wc.heap.size 3 i4 _ 1 8 Tryz.underlying26 hi4 hq0 hq1 hq2 rfl (by decide) (.slice VA i vc) i ((pickV (sl.take i) y.v).flatMap intC) (by rfl) hoA ⟨wr.heap.size, 0, none⟩ 1 1 (intC vv) (by rfl) rfl (one_new wr.drew vv 3) (intC_one _) (by unfold maxLen; omega) (by omega) (by simp; omega) ?_; intro v' w6 hown6 hg6 ho6; obtain ⟨A4, c4', rfl⟩ := own_slice hown6; have kb6 := HB5.out _ _ hg6 (fun g e => (hoA.lt g e).1); have kb6c := kb6.cell; have kb6f := kb6.free; refine hK _ _ ?_; clear hK K
                            refine wpAnyIn_ready (rs := [7]) (by kernel_rfl) (by simp) ?_
                            refine AllReadyIn.cons rfl (fun K hK => ?_) ?_
                            · go_simp
                              refine hK _ _ ?_; clear hK K
                              refine wpAnyIn_done (by kernel_rfl) ?_ _
                              gi_wp2_with fail
                              go_roundw
                              case rel => exact ⟨i + 1, A4, c4', by omega, by go_num, Lib.hid ⟨by simpa using kb6.set 0 (.slice A4 (i + 1) c4'), by rw [HPT.out, List.flatMap_append]; exact own_far (by simpa using hown6) (by show w.heap.size + 1 + 1 < wc.heap.size; omega) _, (((HK5.out.trans (Kpt.of_all ((Below.refl _ wr).drew.alloc (Nat.le_refl _) _))).own_above hg6 (fun g e => (hoA.lt g e).1)).trans (Kpt.set (p := ⟨w.heap.size + 1 + 1, 0, none⟩) (fun h => h rfl) _))⟩⟩
                              case measure => (simp [vInt]; omega)
                            exact AllReadyIn.nil
                          exact AllReadyIn.nil
                        exact AllReadyIn.nil
                      exact AllReadyIn.nil
                    exact AllReadyIn.nil
                  · have hil : ¬ (i : Int) < (sl.length : Int) := by omega
                    obtain rfl : i = sl.length := by omega
                    have c88 := (c87.kpt' hK5 (by omega))
                    have c88c := c88.cell
                    have c48 := (c47.kpt' hK5 (by omega))
                    have c48c := c48.cell
                    have f48 := c48.free
                    rw [List.take_length] at hO
                    have HO8 := Lib.hid hO
                    have HB8 := Lib.hid kb5
                    have HK8 := Lib.hid hK5
                    have C48 := Lib.hid c48
                    clear hR kb5 hO hK5 c57 c47 c88 c48
                    gi_wp2_with fail
                    have e1 : Kpt (fun b => (b < W5.heap.size ∧ b ≠ w.heap.size + 1 ∧ b ≠ w.heap.size + 1 + 1) ∨ W5.heap.size ≤ b) Wa (wr.setCell ⟨w.heap.size + 1, 0, none⟩ (.slice sA sl.length sa)) := ((Kpt.of_all h7).trans (HK8.out.imp (fun b hb => by omega))).trans (Kpt.set (p := ⟨w.heap.size + 1, 0, none⟩) (fun h => by rcases h with h | h; exact h.2.1 rfl; have : W5.heap.size ≤ w.heap.size + 1 := h; omega) _)
                    have e2 : Kpt (fun b => b < W5.heap.size ∧ b ≠ w.heap.size + 1 ∧ b ≠ w.heap.size + 1 + 1) W5 (wr.setCell ⟨w.heap.size + 1, 0, none⟩ (.slice sA sl.length sa)) := (Kpt.of_all q1).trans (e1.imp (fun b hb => .inl hb))
                    refine ⟨e1, ⟨rfl, pre, y, VA, vc, rfl, q2, HNy.out, hsz, e1.size, by simpa using C48.out.set 0 (.slice sA sl.length sa), HB8.out.far (p := ⟨w.heap.size + 1, 0, none⟩) (by show w.heap.size + 1 + 1 ≠ w.heap.size + 1; omega) _, own_low' (own_far HO8.out (by show w.heap.size + 1 < wc.heap.size; omega) _) hs7, e2⟩⟩
          case done =>
            rintro DD xs Wa hDD hxs ⟨q1, q2⟩ hK
            have hDl := (Array.getElem?_eq_some_iff.1 hK).1
            have hnone : firstR (fun y => wasB need (scf y)) (wasB need (scf x)) (fun s => listsS T (freeL x s) cs) sl = none := by
              unfold firstR
              rw [List.find?_eq_none]
              intro z hz
              have hz' : z ∈ listsS T (freeL x sl) cs := hz
              rw [← hxs] at hz'
              obtain ⟨v, hv, rfl⟩ := List.mem_map.1 hz'
              have hv2 := q2 v hv
              simp [hv2]
            have HNN := Lib.hid (HNx.out hnone)
            have HBa := Lib.hid (hBc.trans (q1.mono (Nat.le_trans hsr hszc)))
            have HMa := Lib.hid ((HM.out.later hWr).push (D := DD) (w' := Wa) (fun b hb _ => q1.block b hb) hDD (by omega) hK)
            gi_wp2_with fail
            have hcast : ((q + 1 : Nat) : Int) = (q : Int) + 1 := by omega
            exact Handed.intro (k - 1) (by have := hk1.out; have := HLT.out; omega) (hJ _ _ _ ⟨q + 1, _, .pointer (some ⟨wr.heap.size, 0, none⟩), v9, v11, .bool true, .pointer (some ⟨b9, o9 + q, none⟩), .slice sA sl.length sa, u24, u25, u26, u27, .func (.func 45) #[] #[.pointer (some ⟨gm, 0, none⟩), .pointer (some ⟨gs, 0, none⟩)], u29, u30, u31, u32, u33, u34, u35, u36, u37, u38, u39, u40, u41, u42, u43, u44, u45, u46, u47, u48, u49, u50, u51, .int .i64 ((q : Int) + 1), u53, u54, ⟨by have := hk1.out; have := HLT.out; omega, HBa.out, HMa.out, HNN.out⟩, by rw [hcast]⟩)
          case stop =>
            rintro DD cc M pre Wa hDD hpre hh hK
            obtain ⟨rfl, pre0, y, VA, vc, rfl, h1, h2, h3, h3', z4, z5, h6, h7⟩ := hh
            have hfst : firstR (fun y => wasB need (scf y)) (wasB need (scf x)) (fun s => listsS T (freeL x s) cs) sl = some y.v := by
              unfold firstR
              refine find_prefix _ (l := pre0.map Vc.v) (by rw [← List.map_singleton, ← List.map_append]; exact hpre) (fun z hz => ?_) (by simpa using h2)
              obtain ⟨v, hv, rfl⟩ := List.mem_map.1 hz
              have hv2 := h1 v hv
              simp [hv2]
            have HRS := Lib.hid (HV.out _ hfst)
            have HMa := Lib.hid ((HM.out.later hWr).push (D := DD) (w' := Wa) (fun b hb ⟨o, ho, hc⟩ => h7.blk b hb ⟨hb, fun e => (by subst e; rw [c4] at ho; cases ho; cases hc), fun e => (by subst e; rw [c5] at ho; cases ho; cases hc)⟩) hDD (by omega) hK)
            have hwa := h7.size
            have hbW : Below w.heap.size w wc := HBw.out wc hBc
            have hbA : Below w.heap.size w Wa := hbW.trans (h7.below hbW.size (fun b hb => ⟨by have := hbW.size; omega, by omega, by omega⟩))
            have hsA : IntsAt Wa Wa.heap.size sA sl := fun i hi => by
              obtain ⟨b, off, e, hb, hne, hc⟩ := sets_cell hsi2 c4 hi
              obtain ⟨b', off', e', _, hne', _⟩ := sets_cell hsi2 c5 hi
              rw [e] at e'
              cases e'
              refine ⟨b, off, e, Nat.lt_of_lt_of_le hb hwa, fun j hj => ?_⟩
              obtain rfl : j = 0 := by omega
              rw [Nat.mul_one, Nat.add_zero]
              exact (h7.cell hb ⟨hb, hne, hne'⟩).trans hc
            have hpl : (pickV sl y.v).length = sl.length := by unfold pickV; simp
            rw [← hpl] at h6
            have hvA : IntsAt Wa Wa.heap.size VA (pickV sl y.v) := Flat.of_own intC_len (by decide) h6
            have HSA := Lib.hid hsA
            have HVA := Lib.hid hvA
            have HBA := Lib.hid hbA
            clear h1 h2 hpre hfst h6 hsA hvA hpl hbW
            gi_wp2_with fail
            generalize wc = W5 at *
            gi_cut [53] from 53 (fun _ wx => Blk wx (w.heap.size + 1) #[.slice sA sl.length sa] 26 ∧ Blk wx (w.heap.size + 1 + 1) #[.slice VA sl.length vc] 26 ∧ Kpt (fun b => b ≠ w.heap.size + 1 ∧ b ≠ w.heap.size + 1 + 1) Wa wx)
            case first =>
              refine wpIn_mono (wpIn_wide.2 ?_) then_false
              have e4 := z4.cell
              have e5 := z5.cell
              have f4 := z4.free
              have f5 := z5.free
              have HZ4 := Lib.hid z4
              have HZ5 := Lib.hid z5
              clear z4 z5
              go_region
              all_goals first | (go_step; go_step; gi_meet) | (go_step; gi_meet) | gi_meet
              all_goals first
                | exact two_put HZ4.out HZ5.out (by omega)
                | exact two_put' HZ4.out HZ5.out (by omega)
            case rest =>
              obtain ⟨y4, y5, hky⟩ := hcut
              gi_wp2_with fail
              refine leaves_marks (lo := w9.heap.size) _ wc (Marks.kpt HMa.out hky (fun b o ho hc => ⟨fun e => (by subst e; rw [z4] at ho; cases ho; cases hc), fun e => (by subst e; rw [z5] at ho; cases ho; cases hc)⟩)) (fun w' hw' => ?_)
              have x4 : Blk w' (w.heap.size + 1) _ _ := (hw'.blk _ y4.lt (.inl (by omega))).trans y4
              have x5 : Blk w' (w.heap.size + 1 + 1) _ _ := (hw'.blk _ y5.lt (.inl (by omega))).trans y5
              have x4c := x4.cell
              have x5c := x5.cell
              refine ⟨.tuple #[.slice sA sl.length sa, .slice VA sl.length vc], by simp [results, Tryz.results25, go_sem, x4c, x5c], ?_⟩

              have hbl := (HBA.out.trans (hky.below HBA.out.size (fun b hb => ⟨by omega, by omega⟩))).trans (hw'.below (by have := hky.size; have := HBA.out.size; omega) (fun b hb => .inl (by omega)))
              refine ⟨hbl, sA, sa, VA, vc, sl, pickV sl y.v, by simp [pickV], ?_, ?_, by rw [HRS.out]; exact ⟨rfl, rfl⟩⟩
              · exact flat_shut (by decide) intC_len (ints_two HSA.out z4 z5 hky) hw'
              · exact flat_shut (by decide) intC_len (ints_two HVA.out z4 z5 hky) hw'
      · have hql : ¬ (q : Int) < (ss.length : Int) := by omega
        have hqe : q = ss.length := by have := hk1.out; omega
        have HRS : Hid (reasR (fun y => wasB need (scf y)) (wasB need (scf x)) (fun s => listsS T (freeL x s) cs) (setsS T) = none) := Lib.hid (by rw [← HSS.out]; have := HNo.out; rw [hqe] at this; exact this.none)
        have z4 := k4
        have z5 := k5
        have HBA := Lib.hid (HBw.out wr hB)
        clear hqe hlt k4 k5 kM k6
        gi_wp2_with fail
        gi_cut [53] from 53 (fun _ wx => Blk wx (w.heap.size + 1) #[.slice none 0 0] 26 ∧ Blk wx (w.heap.size + 1 + 1) #[.slice none 0 0] 26 ∧ Kpt (fun b => b ≠ w.heap.size + 1 ∧ b ≠ w.heap.size + 1 + 1) wr wx)
        case first =>
          refine wpIn_mono (wpIn_wide.2 ?_) then_false
          have e4 := z4.cell
          have e5 := z5.cell
          have f4 := z4.free
          have f5 := z5.free
          have HZ4 := Lib.hid z4
          have HZ5 := Lib.hid z5
          clear z4 z5
          go_region
          all_goals first | (go_step; go_step; gi_meet) | (go_step; gi_meet) | gi_meet
          all_goals first
            | exact two_put HZ4.out HZ5.out (by omega)
            | exact two_put' HZ4.out HZ5.out (by omega)
        case rest =>
          obtain ⟨y4, y5, hky⟩ := hcut
          gi_wp2_with fail
          refine leaves_marks (lo := w9.heap.size) _ wc (Marks.kpt HM.out hky (fun b o ho hc => ⟨fun e => (by subst e; rw [z4] at ho; cases ho; cases hc), fun e => (by subst e; rw [z5] at ho; cases ho; cases hc)⟩)) (fun w' hw' => ?_)
          have x4 : Blk w' (w.heap.size + 1) _ _ := (hw'.blk _ y4.lt (.inl (by omega))).trans y4
          have x5 : Blk w' (w.heap.size + 1 + 1) _ _ := (hw'.blk _ y5.lt (.inl (by omega))).trans y5
          have x4c := x4.cell
          have x5c := x5.cell
          refine ⟨.tuple #[.slice none 0 0, .slice none 0 0], by simp [results, Tryz.results25, go_sem, x4c, x5c], ?_⟩

          have hbl := (HBA.out.trans (hky.below HBA.out.size (fun b hb => ⟨by omega, by omega⟩))).trans (hw'.below (by have := hky.size; have := HBA.out.size; omega) (fun b hb => .inl (by omega)))
          exact ⟨hbl, none, 0, none, 0, [], [], rfl, Flat.nil _ _ _ _ _, Flat.nil _ _ _ _ _, by rw [HRS.out]; exact ⟨rfl, rfl⟩⟩
end Go.Proofs.YtpahcbhikmfamaaGreat
