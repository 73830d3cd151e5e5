/- The law on sums. Written by law.py. -/
import Derived.Test.YtjiajgmfkdkheaaUPrg11
import Derived.Test.YtjiajgmfkdkheaaURef6
import Derived.Test.YtjiajgmfkdkheaaURef8
import Derived.Test.YtjiajgmfkdkheaaURef9
import Derived.Test.YtjiajgmfkdkheaaURef10
import Derived.Test.YtjiajgmfkdkheaaURef11
import Derived.Test.YtjiajgmfkdkheaaSSame0

namespace Go.Proofs.Ytjiajgmfkdkheaa
open Go.RowKit Go.Maps

theorem ques_one {W0 : World} {b : Nat} {B : Nat} {wh : List Whe} {col clip step : Int} {W : Option Addr} {wk : Nat} (h : Blk W0 b #[.slice W wh.length wk, .int .i64 col, .int .i64 clip, .int .i64 step] 25) (hb : b < B) (hq : WhesAt W0 B W wh) : QuesAt W0 B (some ⟨b, 0, none⟩) [⟨⟨wh, col, clip, step⟩, W, wk⟩] :=
  ⟨fun k hk => by
    obtain rfl : k = 0 := by simpa using hk
    exact ⟨b, 0, rfl, hb, fun i _ => by simp only [Nat.zero_add, Nat.zero_mul]; exact (h.cell i).trans (by simp [queC])⟩, fun x hx => by rw [List.mem_singleton] at hx; subst hx; exact hq⟩
theorem putI_le : ∀ (l : List Int) (n : Int), (putI l n).length ≤ l.length + 1
  | [], n => by simp [putI]
  | x :: r, n => by
    have := putI_le r n
    unfold putI
    split
    · simp only [List.length_cons]; omega
    · split <;> simp only [List.length_cons] <;> omega
theorem foldI_le : ∀ (cs a : List Int), (cs.foldl putI a).length ≤ a.length + cs.length
  | [], a => by simp
  | c :: cs, a => by
    have h1 := foldI_le cs (putI a c)
    have h2 := putI_le a c
    rw [List.foldl_cons, List.length_cons]; omega
theorem ordI_le (cs : List Int) : (ordI cs).length ≤ cs.length := by have := foldI_le cs []; simpa [ordI] using this
theorem que_single {ql : List QueD} {q : Que} (h : ql.map QueD.v = [q]) : ∃ z, ql = [z] ∧ z.v = q := by
  cases ql with
  | nil => simp at h
  | cons z r =>
    cases r with
    | nil => exact ⟨z, rfl, by simpa using h⟩
    | cons _ _ => simp at h
theorem heldB {B : Nat} {V W : World} {P : Prop} (h : Below B V W ∧ P) : Below B V W := h.1
theorem heldT {B : Nat} {V W W2 : World} {P : Prop} (h : Below W.heap.size W W2) (k : Below B V W ∧ P) (hB : B ≤ V.heap.size := by exact Nat.le_refl _) : Below B V W2 := k.1.trans (h.mono (Nat.le_trans hB k.1.size))
/-- Both in new memory. -/
def TwoS (V : World) (l : List SubD) (q : Que) (s7 s8 : Value) (wx : World) : Prop := ∃ A1 c1 B1 d1, s7 = .slice A1 l.length c1 ∧ s8 = .slice B1 1 d1 ∧ Hid (∃ tl ql, List.map SubD.v tl = l.map SubD.v ∧ SubsAt wx wx.heap.size A1 tl ∧ List.map QueD.v ql = [q] ∧ QuesAt wx wx.heap.size B1 ql ∧ Below V.heap.size V wx)
theorem twoS_mk {V w5 w6 wx : World} {l : List SubD} {q : Que} {A1 B1 : Option Addr} {c1 d1 : Nat} {tl : List SubD} {ql : List QueD} (h5 : Hid (List.map SubD.v tl = l.map SubD.v ∧ SubsAt w5 w5.heap.size A1 tl)) (h6 : Hid (List.map QueD.v ql = [q] ∧ QuesAt w6 w6.heap.size B1 ql)) (x5 : Below w5.heap.size w5 wx) (x6 : Below w6.heap.size w6 wx) (hV : Below V.heap.size V wx) : TwoS V l q (.slice A1 l.length c1) (.slice B1 1 d1) wx :=
  ⟨A1, c1, B1, d1, rfl, rfl, Lib.hid ⟨tl, ql, h5.out.1, h5.out.2.later x5, h6.out.1, h6.out.2.later x6, hV⟩⟩

set_option maxRecDepth 100000 in
set_option maxHeartbeats 8000000 in
theorem sumSums_any (columns : Int) (l : List SubD) (A : Option Addr) (c : Nat) (wh : List Whe) (col clip step : Int) (W : Option Addr) (wk : Nat) (w : World) (h : SubsAt w w.heap.size A l) (_hl : l.length ≤ maxLen) (hm : ∀ x ∈ l, x.v.vals.length ≤ maxLen) (hq : WhesAt w w.heap.size W wh) (hwl : wh.length ≤ maxLen) :
    Calls Try.prog 3 #[.int .i64 columns, .slice A l.length c, .agg #[.slice W wh.length wk, .int .i64 col, .int .i64 clip, .int .i64 step]] w fun e w' => e = .returned (.bool true) ∧ Below w.heap.size w w' := by
  have b1 := (Below.refl w.heap.size w).alloc (Nat.le_refl _) (.cells #[.slice W wh.length wk, .int .i64 col, .int .i64 clip, .int .i64 step] 25)
  have k1 := Blk.new w #[.slice W wh.length wk, .int .i64 col, .int .i64 clip, .int .i64 step] 25
  have k1c := k1.cell
  have g1 := k1.lt
  have b2 := b1.alloc b1.size (.cells #[.slice W wh.length wk, .int .i64 col, .int .i64 clip, .int .i64 step] 25)
  have n2 := Blk.new (w.alloc (.cells #[.slice W wh.length wk, .int .i64 col, .int .i64 clip, .int .i64 step] 25)) #[.slice W wh.length wk, .int .i64 col, .int .i64 clip, .int .i64 step] 25
  rw [World.size_alloc] at n2
  have HGr : Hid (Calls Try.prog 4 #[.slice A l.length c, .slice (some ⟨w.heap.size + 1, 0, none⟩) 1 1] ((w.alloc (.cells #[.slice W wh.length wk, .int .i64 col, .int .i64 clip, .int .i64 step] 25)).alloc (.cells #[.slice W wh.length wk, .int .i64 col, .int .i64 clip, .int .i64 step] 25)) fun e w' => e = .returned (.bool (grtB l [⟨⟨wh, col, clip, step⟩, W, wk⟩])) ∧ Below ((w.alloc (.cells #[.slice W wh.length wk, .int .i64 col, .int .i64 clip, .int .i64 step] 25)).alloc (.cells #[.slice W wh.length wk, .int .i64 col, .int .i64 clip, .int .i64 step] 25)).heap.size ((w.alloc (.cells #[.slice W wh.length wk, .int .i64 col, .int .i64 clip, .int .i64 step] 25)).alloc (.cells #[.slice W wh.length wk, .int .i64 col, .int .i64 clip, .int .i64 step] 25)) w') := Lib.hid (great10_any l A c [⟨⟨wh, col, clip, step⟩, W, wk⟩] (some ⟨w.heap.size + 1, 0, none⟩) 1 _ (h.later b2) (ques_one n2 n2.lt (hq.later b2)) ⟨hm, fun x hx => by rw [List.mem_singleton] at hx; subst hx; exact hwl⟩)
  cases hg : grtB l [⟨⟨wh, col, clip, step⟩, W, wk⟩] with
  | true =>
    rw [hg] at HGr
    clear h hm hq hg n2
    go_enter Try.func3, Try.ntmps3
    go_wp2_with (go_at_call 4; (with_reducible refine (HGr.out).mono ?_); rintro e w1 ⟨rfl, h1⟩)
    go_ret
    exact ⟨rfl, b2.trans (h1.mono b2.size)⟩
  | false =>
    rw [hg] at HGr
    obtain ⟨hl24, _, hv10, hw10⟩ := grt_parts hg
    have hw10' : wh.length ≤ 10 := hw10 0 (by simp)
    have hv10' : ∀ x ∈ l, x.v.vals.length ≤ 10 := fun x hx => by obtain ⟨i, hi, rfl⟩ := List.getElem_of_mem hx; exact hv10 i hi
    have HH := Lib.hid h
    have HQ := Lib.hid hq
    have HM := Lib.hid hm
    have HV := Lib.hid hv10'
    clear h hm hq hg n2 hv10 hw10 hv10'
    go_enter Try.func3, Try.ntmps3
    go_upto_region 3 with (go_at_call 4; (with_reducible refine (HGr.out).mono ?_); rintro e V ⟨rfl, h1⟩; have b3 := b2.trans (h1.mono b2.size); have k3 := (k1.alloc (.cells #[.slice W wh.length wk, .int .i64 col, .int .i64 clip, .int .i64 step] 25)).below h1 (k1.alloc (.cells #[.slice W wh.length wk, .int .i64 col, .int .i64 clip, .int .i64 step] 25)).lt)
    have g3 := k3.lt
    have HTw := Lib.hid (fun (W' : World) (hb : Below V.heap.size V W') => twinS_any l A c W' (HH.out.later (b3.trans (hb.mono b3.size))) (by omega) (fun x hx => by have := HV.out x hx; omega))
    have HTQ : Hid (∀ (W' : World) (b : Nat), Below V.heap.size V W' → Blk W' b #[.slice W wh.length wk, .int .i64 col, .int .i64 clip, .int .i64 step] 25 → Calls Try.prog 6 #[.slice (some ⟨b, 0, none⟩) 1 1] W' (TwinQue W' [⟨⟨wh, col, clip, step⟩, W, wk⟩])) := Lib.hid (fun W' b hb hk => twinQ_any [⟨⟨wh, col, clip, step⟩, W, wk⟩] (some ⟨b, 0, none⟩) 1 W' (ques_one hk hk.lt (HQ.out.later (b3.trans (hb.mono b3.size)))) (by simp) (fun x hx => by rw [List.mem_singleton] at hx; subst hx; show wh.length ≤ 1000; omega))
    clear k1 k1c HGr b1 b2 h1 g1
    go_cut [7, 8] (fun s7 s8 wx => TwoS V l ⟨wh, col, clip, step⟩ s7 s8 wx)
    case first =>
      have SK : ∀ W', Below V.heap.size V W' → Below V.heap.size V W' ∧ (∀ i, W'.cell? ⟨w.heap.size, i, none⟩ = (#[.slice W wh.length wk, .int .i64 col, .int .i64 clip, .int .i64 step] : Array Value)[i]?) := fun W' hW => ⟨hW, (k3.below hW g3).cell⟩
      have dd0 : Below V.heap.size V V.drew := (Below.refl _ _).drew
      go_region_held3 (fun W' => Below V.heap.size V W' ∧ (∀ i, W'.cell? ⟨w.heap.size, i, none⟩ = (#[.slice W wh.length wk, .int .i64 col, .int .i64 clip, .int .i64 step] : Array Value)[i]?)) ((refine SK _ ?_; repeat (first | with_reducible assumption | with_reducible exact Below.refl _ _ | with_reducible refine Below.drew ?_ | with_reducible refine Below.alloc ?_ (by first | omega | (simp; done) | (simp; omega)) _ | with_reducible refine Below.setCell ?_ (by first | omega | (simp; done) | (simp; omega)) _)))
        (first
          | (go_at_call 5; (with_reducible refine (HTw.out _ ?_).mono ?_); exact heldB (by with_reducible assumption); rintro e w5 ⟨A1, c1, tl, rfl, hO, h5⟩; have d5 := heldT h5 (by with_reducible assumption); have z5 := h5.size; have v5 := d5.size; (try (have P1 := ((Blk.new V #[.slice W wh.length wk, .int .i64 col, .int .i64 clip, .int .i64 step] 25).drew).below h5 (by first | omega | (simp; done) | (simp; omega)))))
          | (go_at_call 6; (with_reducible refine (HTQ.out _ _ ?_ ?_).mono ?_); exact heldB (by with_reducible assumption); (first | with_reducible exact Blk.new _ _ _ | with_reducible assumption | exact (Blk.new _ _ _).drew); rintro e w6 ⟨B1, d1, ql, rfl, hO6, h6⟩; have d6 := heldT h6 (by with_reducible assumption); have z6 := h6.size; have v6 := d6.size))
      all_goals first | (go_step; go_step; go_meet) | (go_step; go_meet) | go_meet
      all_goals first
        | exact twoS_mk hO hO6 h6 (Below.refl _ _) d6
        | exact twoS_mk hO hO6 (((Below.refl _ _).alloc (Nat.le_refl _) _).trans (h6.mono (by simp))) (Below.refl _ _) d6
    case rest =>
      obtain ⟨A1, c1, B1, d1, rfl, rfl, hT⟩ := hcut
      obtain ⟨tl, ql, ht, hS, hqv, hQs, hVX⟩ := hT.out
      obtain ⟨z, rfl, hz⟩ := que_single hqv
      obtain ⟨zv, ZW, zc⟩ := z
      dsimp only at hz
      subst hz
      have HQs := Lib.hid hQs
      obtain ⟨bq, oq, rfl, hbq, q0, q1, q2, q3, hqw⟩ := ques_at hQs (k := 0) (by simp)
      simp only [Nat.zero_mul, Nat.add_zero] at q0 q1 q2 q3
      have q0' : wc.cell? ⟨bq, oq, none⟩ = some (.slice ZW wh.length zc) := q0
      have q1' : wc.cell? ⟨bq, oq + 1, none⟩ = some (.int .i64 col) := q1
      have q2' : wc.cell? ⟨bq, oq + 2, none⟩ = some (.int .i64 clip) := q2
      have q3' : wc.cell? ⟨bq, oq + 3, none⟩ = some (.int .i64 step) := q3
      have hX := b3.trans (hVX.mono b3.size)
      have kX := k3.below hVX g3
      have kXc := kX.cell
      have gX := kX.lt
      have hlen : tl.length = l.length := by have := congrArg List.length ht; simpa using this
      have hvt : ∀ x ∈ tl, x.v.vals.length ≤ 10 := fun x hx => by
        have h1 : x.v ∈ l.map SubD.v := by rw [← ht]; exact List.mem_map_of_mem hx
        obtain ⟨y, hy, e2⟩ := List.mem_map.1 h1
        rw [← e2]; exact HV.out y hy
      have hvt2 : ∀ x ∈ tl, x.v.vals.length ≤ maxLen := fun x hx => by have := hvt x hx; unfold maxLen; omega
      have htl : tl.length ≤ maxLen := by unfold maxLen; omega
      have hwm : wh.length ≤ maxLen := by unfold maxLen; omega
      have HMp := Lib.hid (fun (W' : World) (hb : Below wc.heap.size wc W') => meetsP_any columns tl A1 c1 wh col clip step ZW zc W' (hS.later hb) htl hvt2 (hqw.later hb) hwm)
      have HSp := Lib.hid (fun (W' : World) (hb : Below wc.heap.size wc W') => sumP_any columns tl A1 c1 wh col clip step ZW zc W' (hS.later hb) htl hvt2 (hqw.later hb) hwm)
      have HCp := Lib.hid (fun (W' : World) (hb : Below wc.heap.size wc W') => checkU_any columns tl A1 c1 W' (hS.later hb) htl hvt2)
      have HSt := Lib.hid (fun (W' : World) (hb : Below wc.heap.size wc W') => sameTable_any tl l A1 A c1 c W' (hS.later hb) (HH.out.later (hX.trans (hb.mono hX.size))) ht (by omega) (fun x hx => by have := hvt x hx; omega))
      have HSq : Hid (∀ (W' : World) (b : Nat), Below wc.heap.size wc W' → Blk W' b #[.slice W wh.length wk, .int .i64 col, .int .i64 clip, .int .i64 step] 25 → Calls Try.prog 15 #[.slice (some ⟨bq, oq, none⟩) 1 d1, .slice (some ⟨b, 0, none⟩) 1 1] W' fun e w' => e = .returned (.bool true) ∧ Below W'.heap.size W' w') := Lib.hid (fun W' b hb hk => sameQues_any [⟨⟨wh, col, clip, step⟩, ZW, zc⟩] [⟨⟨wh, col, clip, step⟩, W, wk⟩] (some ⟨bq, oq, none⟩) (some ⟨b, 0, none⟩) d1 1 W' (HQs.out.later hb) (ques_one hk hk.lt (HQ.out.later (hX.trans (hb.mono hX.size)))) rfl (by simp) (fun x hx => by rw [List.mem_singleton] at hx; subst hx; show wh.length ≤ 1000; omega))
      have HMr := Lib.hid (fun (W' : World) (hb : Below wc.heap.size wc W') => meets10_any columns l A c wh col clip step W wk W' (HH.out.later (hX.trans (hb.mono hX.size))) hl24 (HQ.out.later (hX.trans (hb.mono hX.size))) hw10')
      have HSr := Lib.hid (fun (W' : World) (hb : Below wc.heap.size wc W') => sum10_any columns l A c wh col clip step W wk W' (HH.out.later (hX.trans (hb.mono hX.size))) hl24 (HQ.out.later (hX.trans (hb.mono hX.size))) hw10')
      have HCr := Lib.hid (fun (W' : World) (hb : Below wc.heap.size wc W') => check10_any columns l A c W' (HH.out.later (hX.trans (hb.mono hX.size))) hl24)
      have hml : (metV columns (l.map SubD.v) ⟨wh, col, clip, step⟩).length ≤ 1000 := by
        have h1 := ordI_le ((List.filter (fun s => askB s ⟨wh, col, clip, step⟩) (l.map SubD.v)).map Sub.id)
        have h2 := List.length_filter_le (fun s => askB s ⟨wh, col, clip, step⟩) (l.map SubD.v)
        rw [List.length_map] at h1 h2
        unfold metV metL
        split
        · omega
        · simp
      rw [ht, hlen] at HMp HSp
      rw [ht, hlen] at HCp
      rw [hlen] at HSt
      have HIn := Lib.hid (fun (mv : List Int) (hm : mv.length ≤ 1000) Aa Ab ca cb (W' : World) hi1 hi2 => sameInts_any mv Aa Ab ca cb W' hi1 hi2 hm)
      generalize metV columns (l.map SubD.v) ⟨wh, col, clip, step⟩ = mv at *
      generalize askE columns (l.map SubD.v) ⟨wh, col, clip, step⟩ = ae at *
      generalize sumP columns (l.map SubD.v) ⟨wh, col, clip, step⟩ = sp at *
      generalize sumB columns (l.map SubD.v) ⟨wh, col, clip, step⟩ = sb at *
      generalize tabE columns (l.map SubD.v) = te at *
      have t1 : (te == te) = true := by simp
      have t2 : (ae == ae) = true := by simp
      have t3 : (sp == sp) = true := by simp
      have t4 : (sb == sb) = true := by simp
      have HX := Lib.hid hX
      have HKX := Lib.hid kX
      clear hlen ht hT hS hqv hQs hvt hvt2 htl hwm hX hqw q0 q1 q2 q3 hVX
      go_upto_region 5 with (go_at_call 7; (with_reducible refine (HMp.out _ (Below.refl _ _)).mono ?_); rintro e w4 ⟨A4, c4, rfl, hI4, y4⟩; have k4c := (HKX.out.below y4 gX).cell; have q40 := (y4.cell (p := ⟨bq, oq, none⟩) hbq).trans q0'; have q41 := (y4.cell (p := ⟨bq, oq + 1, none⟩) hbq).trans q1'; have q42 := (y4.cell (p := ⟨bq, oq + 2, none⟩) hbq).trans q2'; have q43 := (y4.cell (p := ⟨bq, oq + 3, none⟩) hbq).trans q3')
      have HI4 := Lib.hid hI4
      clear hI4 kXc q0' q1' q2' q3'
      go_upto_region 6 with (go_at_call 8; (with_reducible refine (HMr.out _ y4).mono ?_); rintro e w5 ⟨A5, c5, rfl, hI5, x5⟩; have y5 := y4.trans (x5.mono y4.size); have k5c := (HKX.out.below y5 gX).cell; have hbq4 := Nat.lt_of_lt_of_le hbq y4.size; have q50 := (x5.cell (p := ⟨bq, oq, none⟩) hbq4).trans q40; have q51 := (x5.cell (p := ⟨bq, oq + 1, none⟩) hbq4).trans q41; have q52 := (x5.cell (p := ⟨bq, oq + 2, none⟩) hbq4).trans q42; have q53 := (x5.cell (p := ⟨bq, oq + 3, none⟩) hbq4).trans q43)
      have HI5 := Lib.hid hI5
      clear hI5 k4c q40 q41 q42 q43
      go_upto_region 7 with (go_at_call 9; (with_reducible refine (HSp.out _ y5).mono ?_); rintro e w6 ⟨rfl, x6⟩; have y6 := y5.trans (x6.mono y5.size); have k6c := (HKX.out.below y6 gX).cell)
      clear k5c q50 q51 q52 q53
      go_upto_region 8 with (go_at_call 10; (with_reducible refine (HSr.out _ y6).mono ?_); rintro e w7 ⟨rfl, x7⟩; have y7 := y6.trans (x7.mono y6.size))
      clear k6c
      go_wp2_with (first
        | (go_at_call 11; (with_reducible refine (HCp.out _ y7).mono ?_); rintro e w8 ⟨rfl, x8⟩; have y8 := y7.trans (x8.mono y7.size))
        | (go_at_call 12; (with_reducible refine (HCr.out _ y8).mono ?_); rintro e w9 ⟨rfl, x9⟩; have y9 := y8.trans (x9.mono y8.size); have HI4' := Lib.hid (HI4.out.later ((((x5.trans (x6.mono x5.size)).trans (x7.mono (Nat.le_trans x5.size x6.size))).trans (x8.mono (Nat.le_trans x5.size (Nat.le_trans x6.size x7.size)))).trans (x9.mono (Nat.le_trans x5.size (Nat.le_trans x6.size (Nat.le_trans x7.size x8.size)))))); have HI5' := Lib.hid (HI5.out.later (((x6.trans (x7.mono x6.size)).trans (x8.mono (Nat.le_trans x6.size x7.size))).trans (x9.mono (Nat.le_trans x6.size (Nat.le_trans x7.size x8.size))))))
        | (go_at_call 13; (with_reducible refine (HIn.out mv hml A4 A5 c4 c5 _ HI4'.out HI5'.out).mono ?_); rintro e w10 ⟨rfl, x10⟩; have y10 := y9.trans (x10.mono y9.size))
        | (go_at_call 14; (with_reducible refine (HSt.out _ y10).mono ?_); rintro e w11 ⟨rfl, x11⟩; have y11 := y10.trans (x11.mono y10.size); have k11 := HKX.out.below y11 gX; have k11c := k11.cell; have y12 := y11.alloc y11.size (.cells #[.slice W wh.length wk, .int .i64 col, .int .i64 clip, .int .i64 step] 25); have n12 := Blk.new w11 #[.slice W wh.length wk, .int .i64 col, .int .i64 clip, .int .i64 step] 25; have HSq2 := Lib.hid (HSq.out _ _ y12 n12))
        | (go_at_call 15; (with_reducible refine (HSq2.out).mono ?_); rintro e w13 ⟨rfl, x13⟩; have y13 := y12.trans (x13.mono y12.size)))
      go_ret
      exact ⟨ret_bool (by simp), HX.out.trans (y13.mono HX.out.size)⟩
end Go.Proofs.Ytjiajgmfkdkheaa
