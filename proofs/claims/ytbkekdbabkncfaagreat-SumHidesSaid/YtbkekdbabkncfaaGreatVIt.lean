/- The equations of questions, by the program's iterator. Written by vit.py, vit2.py. -/
import Derived.Test.YtbkekdbabkncfaaGreatW5
import Derived.Test.YtbkekdbabkncfaaGreatW6

namespace Go.Proofs.YtbkekdbabkncfaaGreat
open Go.RowKit Go.Maps

attribute [local go_sem] Oper.semAt_some

theorem eqnL_append (ol : List SubD) (m : Nat) : ∀ (a b : List Que) (k : Nat), eqnL ol m k (a ++ b) = eqnL ol m k a ++ eqnL ol m (k + a.length) b
  | [], b, k => by simp [eqnL]
  | x :: a, b, k => by
    rw [List.cons_append]
    simp only [eqnL]
    rw [eqnL_append ol m a b (k + 1), List.length_cons, show k + 1 + a.length = k + (a.length + 1) by omega]
    split <;> simp
/-- The first equations of all. -/
def PreE (full : List Eqn) (xs : List EqD) : Prop := ∃ rest, xs.map EqD.v ++ rest = full
theorem preE_of {ol : List SubD} {m i : Nat} {qs : List Que} {xs : List EqD} (h : xs.map EqD.v = eqnL ol m 0 (qs.take i)) : PreE (eqnL ol m 0 qs) xs := by
  refine ⟨eqnL ol m (0 + (qs.take i).length) (qs.drop i), ?_⟩
  rw [h, ← eqnL_append, List.take_append_drop]

set_option maxRecDepth 100000 in
set_option maxHeartbeats 8000000 in
theorem equations1_stops (n lb tb : Nat) (columns : Int) (ol : List SubD) (A : Option Addr) (c m : Nat) (qs : List QueD) (Q : Option Addr) (qc : Nat) (w : World)
    (kl : Blk w lb #[.slice Q qs.length qc] 35) (kt : Blk w tb #[.slice A ol.length c, .map (some m)] 72) (hT : TabAt w columns ol A m) (hQ : QuesAt w w.heap.size Q qs) (hv : ∀ q ∈ qs, queB columns q.v = true) (hl : qs.length ≤ 8) :
    SeqT Fence.wide n Tryz.prog 105 #[.pointer (some ⟨lb, 0, none⟩), .pointer (some ⟨tb, 0, none⟩)] encE EqdAt (fun b => b < w.heap.size) (fun xs => xs.map EqD.v = eqnL ol qs.length 0 (qs.map QueD.v)) (PreE (eqnL ol qs.length 0 (qs.map QueD.v))) w := by
  intro l J W hW hJ hY h0
  have hfn : ∀ f, Fence.wide.fn f := fun _ => trivial
  have hdep : Fence.wide.depth.isSome = false := rfl
  have hmx : Tryz.prog.follows .mixedOrders = true := by kernel_rfl
  have hY' : ∀ m' pre x W1, J pre W1 → EqdAt x W1 → PreE (eqnL ol qs.length 0 (qs.map QueD.v)) (pre ++ [x]) → W.heap.size ≤ W1.heap.size → YieldAt Fence.wide m' Tryz.prog l (encE x) W1 fun e W' => e = .returned (.bool true) ∧ J (pre ++ [x]) W' ∧ Kpt (fun b => b < w.heap.size) W1 W' := fun m' pre x W1 h1 h2 h3 h4 => yieldAt_wide m' (hY pre x W1 h1 h2 h3 h4)
  have klW := (kl.below hW kl.lt)
  have ktW := (kt.below hW kt.lt)
  have hll := kl.lt
  have htl := kt.lt
  have klc := klW.cell
  have HT := Lib.hid hT
  have HQ := Lib.hid hQ
  have HV := Lib.hid hv
  have HY := Lib.hid hY'
  have hWs := hW.size
  have kl0 := kl
  have kt0 := kt
  have ktc := ktW.cell
  clear hT hQ hv hY hY' kl kt
  refine callsIn_of_wp Tryz.func105 rfl trivial ?_ rfl
  simp only [Tryz.ntmps105, List.size_toArray, List.length_cons, List.length_nil, Nat.reduceAdd, Nat.reduceSub, Array.replicate_succ, Array.replicate_zero, List.push_toArray, List.append_toArray, List.nil_append, List.cons_append]
  gi_wp2
  gi_loopw [9] (fun ii wr => ∃ i : Nat, i ≤ qs.length ∧ ii = .int .i64 i ∧ Hid ((∃ xs : List EqD, xs.map EqD.v = eqnL ol qs.length 0 ((qs.map QueD.v).take i) ∧ J xs wr) ∧ Below w.heap.size w wr ∧ W.heap.size ≤ wr.heap.size)) (fun ii _ => qs.length - (vInt ii).toNat)
  case atStart => exact ⟨0, Nat.zero_le _, rfl, Lib.hid ⟨⟨[], by simp [eqnL], h0⟩, hW, Nat.le_refl _⟩⟩
  case round =>
    obtain ⟨i, hi, rfl, hR⟩ := hrel
    obtain ⟨⟨xs, hxs, hJs⟩, hB, hzr⟩ := hR.out
    by_cases hlt : i < qs.length
    · have hil : (i : Int) < (qs.length : Int) := by omega
      obtain ⟨b, off, hA, hbb, c0, c1, c2, c3, hwh⟩ := ques_at (HQ.out.later hB) hlt
      have hqv := HV.out _ (List.getElem_mem hlt)
      have hst : eqnL ol qs.length 0 ((qs.map QueD.v).take (i + 1)) = eqnL ol qs.length 0 ((qs.map QueD.v).take i) ++ if bitsN (askL qs[i].v ol) = 0 then [] else [⟨digL (bitsN (askL qs[i].v ol)) ol.length, digL (2 ^ i) qs.length⟩] := by
        rw [List.take_succ_eq_append_getElem (by simpa using hlt), List.getElem_map, eqnL_snoc]
        simp [Nat.min_eq_left (Nat.le_of_lt hlt)]
      have HAs := Lib.hid (fun W' (hb : Below w.heap.size w W') => askedU_any columns ol A c m qs[i].v.wheres qs[i].v.col qs[i].v.clip qs[i].v.step qs[i].W qs[i].c W' (HT.out.later hb) ((HQ.out.later hb).each _ (List.getElem_mem hlt)) hqv)
      have hKb : bitsN (askL qs[i].v ol) < 2 ^ 62 := by
        have h1 := bitsN_lt (askL qs[i].v ol)
        have h2 : (askL qs[i].v ol).length = ol.length := by simp [askL]
        have h3 := HT.out.len
        rw [h2] at h1
        exact Nat.lt_of_lt_of_le h1 (Nat.pow_le_pow_right (by decide) (by omega))
      have hn16 := HT.out.len
      have hask : askL ⟨qs[i].v.wheres, qs[i].v.col, qs[i].v.clip, qs[i].v.step⟩ ol = askL qs[i].v ol := rfl
      rw [hask] at HAs
      have HSt := Lib.hid hst
      have HKb := Lib.hid hKb
      clear hst hqv hwh hask hR hKb
      generalize hkk : bitsN (askL qs[i].v ol) = K at *
      clear hkk
      generalize qs[i] = y at *
      subst hA
      have bA := (Below.refl wr.heap.size wr).alloc (Nat.le_refl _) (.cells #[.slice y.W y.v.wheres.length y.c, .int .i64 y.v.col, .int .i64 y.v.clip, .int .i64 y.v.step] 25)
      have eA := hB.trans (bA.mono hB.size)
      have klr := (kl0.below hB hll).cell
      have ktr := (kt0.below eA htl).cell
      have kq := (Blk.new wr #[.slice y.W y.v.wheres.length y.c, .int .i64 y.v.col, .int .i64 y.v.clip, .int .i64 y.v.step] 25).cell
      gi_upto_region 5 with (gi_at_call 75; refine (callsIn_wide.2 (HAs.out _ eA)).mono ?_; rintro e V ⟨rfl, hV⟩)
      have eV := eA.trans (hV.mono eA.size)
      have hWV : W.heap.size ≤ V.heap.size := by have := hV.size; simp at this; omega
      have HJ := Lib.hid (hJ _ _ _ hJs (bA.trans (hV.mono (by simp))))
      have KT := Lib.hid (fun W' (hb : Below w.heap.size w W') => (kt0.below hb htl).cell)
      have KL := Lib.hid (fun W' (hb : Below w.heap.size w W') => (kl0.below hb hll).cell)
      have tV := KT.out _ eV
      have lV := KL.out _ eV
      have HXs := Lib.hid hxs
      clear kq klr ktr c0 c1 c2 c3 hJs klc ktc klW ktW kl0 kt0 bA eA hxs
      by_cases hz : K = 0
      · have ez : ((K : Int) != 0) = false := by simp [hz]
        rw [if_pos hz, List.append_nil] at HSt
        have HZ : Hid (∀ W', Below V.heap.size V W' → ((∃ xs : List EqD, xs.map EqD.v = eqnL ol qs.length 0 ((qs.map QueD.v).take (i + 1)) ∧ J xs W') ∧ Below w.heap.size w W' ∧ W.heap.size ≤ W'.heap.size)) := Lib.hid (fun W' hb => ⟨⟨xs, by rw [HSt.out]; exact HXs.out, hJ _ _ _ HJ.out hb⟩, eV.trans (hb.mono eV.size), Nat.le_trans hWV hb.size⟩)
        clear HT HQ HV HY HJ KT KL HAs hJ HXs tV lV
        generalize hkI : (K : Int) = KI at *
        clear hkI hz
        refine wpIn_wide.2 ?_
        go_quiet (fail)
        gi_wp2
        go_roundw
        case rel => exact ⟨i + 1, by omega, by go_num, Lib.hid (HZ.out _ ⟨rfl, rfl, rfl, Nat.le_refl _, fun _ _ => rfl⟩)⟩
        case measure => simp [vInt]; omega
      · have ez : ((K : Int) != 0) = true := by simp [hz]
        rw [if_neg hz] at HSt
        have hp16 := pow16 i (by omega)
        have hsh : IntKind.i64.wrap ((2 : Int) ^ i) = ((2 ^ i : Nat) : Int) := by
          have h1 : ((2 : Int) ^ i) = ((2 ^ i : Nat) : Int) := by push_cast; rfl
          rw [h1]
          exact IntWalk.i64_in _ (by omega)
        have HD1 := Lib.hid (fun W' => (callsIn_wide (n := n - 1)).2 (digits_any K ol.length HKb.out (by omega) W'))
        have HD2 := Lib.hid (fun W' => (callsIn_wide (n := n - 1)).2 (digits_any (2 ^ i) qs.length (by omega) (by omega) W'))
        rw [← hsh] at HD2
        have D0 : Below V.heap.size V V.drew := (Below.refl _ _).drew
        have HYY := Lib.hid (fun (A5 : Option Addr) (a5 : Nat) (A6 : Option Addr) (a6 : Nat) (W1 : World) (hd : Below V.heap.size V W1) (h5 : FrcAt W1 W1.heap.size A5 (digL K ol.length)) (h6 : FrcAt W1 W1.heap.size A6 (digL (2 ^ i) qs.length)) => HY.out (n - 1) xs ⟨⟨digL K ol.length, digL (2 ^ i) qs.length⟩, A5, a5, A6, a6⟩ W1 (hJ _ _ _ HJ.out hd) ⟨h5, h6, by simp [digL]; omega, by simp [digL]; omega⟩ (preE_of (i := i + 1) (by rw [List.map_append, HXs.out, HSt.out]; rfl)) (Nat.le_trans hWV hd.size))
        have tV' : ∀ W', Below V.heap.size V W' → ∀ j, W'.cell? ⟨tb, j, none⟩ = (#[.slice A ol.length c, .map (some m)] : Array Value)[j]? := fun W' hb => KT.out _ (eV.trans (hb.mono eV.size))
        have lV' : ∀ W', Below V.heap.size V W' → ∀ j, W'.cell? ⟨lb, j, none⟩ = (#[.slice (some ⟨b, off, none⟩) qs.length qc] : Array Value)[j]? := fun W' hb => KL.out _ (eV.trans (hb.mono eV.size))
        have TV := Lib.hid tV'
        have LV := Lib.hid lV'
        have t0 := tV' _ D0
        have l0 := lV' _ D0
        clear HT HQ HV HAs tV lV tV' lV' hsh hp16
        generalize hl1 : digL K ol.length = v1 at *
        generalize hl2 : digL (2 ^ i) qs.length = v2 at *
        refine wpIn_region_any hmx ?_
        change wpAnyIn _ _ _ _ _ _ _ _ _ (World.drew _)
        refine wpAnyIn_take (i := 0) (v := ?_) rfl rfl (by kernel_rfl) (by kernel_rfl) (by kernel_rfl) (fun _ _ _ h => h) ⟨Or.inl ⟨by rfl, ?_⟩, fun _ => rfl⟩ ?_
        case refine_2 => intro w; go_simp; first | done | with_reducible rfl
        refine wpAnyIn_take (i := 1) (v := ?_) rfl rfl (by kernel_rfl) (by kernel_rfl) (by kernel_rfl) (fun _ _ _ h => h) ⟨Or.inl ⟨by rfl, ?_⟩, fun _ => rfl⟩ ?_
        case refine_2 => intro w; go_simp; first | done | with_reducible rfl
        refine wpAnyIn_take (i := 2) (v := ?_) rfl rfl (by kernel_rfl) (by kernel_rfl) (by kernel_rfl) (fun _ _ _ h => h) ⟨Or.inl ⟨by rfl, ?_⟩, fun _ => rfl⟩ ?_
        case refine_2 => intro w; go_simp; first | done | with_reducible rfl
        refine wpAnyIn_take (i := 3) (v := ?_) rfl rfl (by kernel_rfl) (by kernel_rfl) (by kernel_rfl) (fun _ _ _ h => h) ⟨Or.inl ⟨by rfl, ?_⟩, fun _ => rfl⟩ ?_
        case refine_2 => intro w; go_simp; first | done | with_reducible rfl
        refine wpAnyIn_take (i := 4) (v := ?_) rfl rfl (by kernel_rfl) (by kernel_rfl) (by kernel_rfl) (fun _ _ _ h => h) ⟨Or.inl ⟨by rfl, ?_⟩, fun _ => rfl⟩ ?_
        case refine_2 => intro w; go_simp; first | done | with_reducible rfl
        refine wpAnyIn_take (i := 5) (v := ?_) rfl rfl (by kernel_rfl) (by kernel_rfl) (by kernel_rfl) (fun _ _ _ h => h) ⟨Or.inl ⟨by rfl, ?_⟩, fun _ => rfl⟩ ?_
        case refine_2 => intro w; go_simp; first | done | with_reducible rfl
        refine wpAnyIn_take (i := 9) (v := ?_) rfl rfl (by kernel_rfl) (by kernel_rfl) (by kernel_rfl) (fun _ _ _ h => h) ⟨Or.inl ⟨by rfl, ?_⟩, fun _ => rfl⟩ ?_
        case refine_2 => intro w; go_simp; first | done | with_reducible rfl
        refine wpAnyIn_take (i := 10) (v := ?_) rfl rfl (by kernel_rfl) (by kernel_rfl) (by kernel_rfl) (fun _ _ _ h => h) ⟨Or.inl ⟨by rfl, ?_⟩, fun _ => rfl⟩ ?_
        case refine_2 => intro w; go_simp; first | done | with_reducible rfl
        refine wpAnyIn_ready (rs := [6, 11]) (by kernel_rfl) (by simp) ?_
        refine AllReadyIn.cons rfl (fun K hK => ?_) ?_
        · go_simp
          refine hK _ _ ?_; clear hK K
          refine wpAnyIn_take (i := 7) (v := ?_) rfl rfl (by kernel_rfl) (by kernel_rfl) (by kernel_rfl) (fun _ _ _ h => h) ⟨Or.inl ⟨by rfl, ?_⟩, fun _ => rfl⟩ ?_
          case refine_2 => intro w; go_simp; first | done | with_reducible rfl
          refine wpAnyIn_ready (rs := [8, 11]) (by kernel_rfl) (by simp) ?_
          refine AllReadyIn.cons rfl (fun K hK => ?_) ?_
          · go_simp
            gi_wp2_with (gi_at_call 106; refine (HD1.out _).mono ?_; rintro e w5 ⟨A5, a5, rfl, f5, h5⟩; have d5 := D0.trans h5; have t5 := TV.out _ d5; have l5 := LV.out _ d5)
            refine wpAnyIn_ready (rs := [11]) (by kernel_rfl) (by simp) ?_
            refine AllReadyIn.cons rfl (fun K hK => ?_) ?_
            · go_simp
              refine hK _ _ ?_; clear hK K
              refine wpAnyIn_take (i := 12) (v := ?_) rfl rfl (by kernel_rfl) (by kernel_rfl) (by kernel_rfl) (fun _ _ _ h => h) ⟨Or.inl ⟨by rfl, ?_⟩, fun _ => rfl⟩ ?_
              case refine_2 => intro w; go_simp; first | done | with_reducible rfl
              refine wpAnyIn_ready (rs := [13]) (by kernel_rfl) (by simp) ?_
              refine AllReadyIn.cons rfl (fun K hK => ?_) ?_
              · go_simp
                gi_wp2_with (gi_at_call 106; refine (HD2.out _).mono ?_; rintro e w6 ⟨A6, a6, rfl, f6, h6⟩; have d6 := d5.trans (h6.mono d5.size); have t6 := TV.out _ d6; have l6 := LV.out _ d6; obtain ⟨fn, tmps, assign, body, hy, hRd⟩ := HYY.out A5 a5 A6 a6 w6 d6 ((f5.move (Fr.below h6)).flat) f6.flat; simp only [encE] at hy)
                refine wpAnyIn_take (i := 14) (v := ?_) rfl rfl (by kernel_rfl) (by kernel_rfl) (by kernel_rfl) (fun _ _ _ h => h) ⟨Or.inl ⟨by rfl, ?_⟩, fun _ => rfl⟩ ?_
                case refine_2 => intro w; go_simp; first | done | with_reducible rfl
                refine wpAnyIn_ready (rs := [15]) (by kernel_rfl) (by simp) ?_
                refine AllReadyIn.cons rfl (fun K hK => ?_) ?_
                · go_simp
                  refine hRd.mono ?_
                  rintro e W3 ⟨rfl, hJ3, hk3⟩
                  refine hK _ _ ?_; clear hK K
                  refine wpAnyIn_take (i := 16) (v := ?_) rfl rfl (by kernel_rfl) (by kernel_rfl) (by kernel_rfl) (fun _ _ _ h => h) ⟨Or.inl ⟨by rfl, ?_⟩, fun _ => rfl⟩ ?_
                  case refine_2 => intro w; go_simp; first | done | with_reducible rfl
                  refine wpAnyIn_take (i := 17) (v := ?_) rfl rfl (by kernel_rfl) (by kernel_rfl) (by kernel_rfl) (fun _ _ _ h => h) ⟨Or.inl ⟨by rfl, ?_⟩, fun _ => rfl⟩ ?_
                  case refine_2 => intro w; go_simp; first | done | with_reducible rfl
                  refine wpAnyIn_done (by kernel_rfl) ?_ _
                  clear hy hRd HYY TV LV HD1 HD2
                  have hk4 : Below w.heap.size w W3 := (eV.trans (d6.mono eV.size)).trans (hk3.below (by have := eV.size; have := d6.size; omega) (fun b hb => hb))
                  have hk5 := hk3.size
                  have hk6 := d6.size
                  have HX2 : Hid (List.map EqD.v (xs ++ [⟨⟨v1, v2⟩, A5, a5, A6, a6⟩]) = eqnL ol qs.length 0 ((qs.map QueD.v).take (i + 1))) := Lib.hid (by rw [List.map_append, HXs.out, HSt.out]; rfl)
                  clear HXs HSt
                  gi_wp2
                  go_roundw
                  case rel => exact ⟨i + 1, by omega, by go_num, Lib.hid ⟨⟨_, HX2.out, hJ3⟩, hk4, by omega⟩⟩
                  case measure => simp [vInt]; omega
                exact AllReadyIn.nil
              exact AllReadyIn.nil
            exact AllReadyIn.nil
          refine AllReadyIn.cons rfl (fun K hK => ?_) ?_
          · go_simp
            refine hK _ _ ?_; clear hK K
            refine wpAnyIn_take (i := 12) (v := ?_) rfl rfl (by kernel_rfl) (by kernel_rfl) (by kernel_rfl) (fun _ _ _ h => h) ⟨Or.inl ⟨by rfl, ?_⟩, fun _ => rfl⟩ ?_
            case refine_2 => intro w; go_simp; first | done | with_reducible rfl
            refine wpAnyIn_ready (rs := [8]) (by kernel_rfl) (by simp) ?_
            refine AllReadyIn.cons rfl (fun K hK => ?_) ?_
            · go_simp
              gi_wp2_with (gi_at_call 106; refine (HD1.out _).mono ?_; rintro e w5 ⟨A5, a5, rfl, f5, h5⟩; have d5 := D0.trans h5; have t5 := TV.out _ d5; have l5 := LV.out _ d5)
              refine wpAnyIn_ready (rs := [13]) (by kernel_rfl) (by simp) ?_
              refine AllReadyIn.cons rfl (fun K hK => ?_) ?_
              · go_simp
                gi_wp2_with (gi_at_call 106; refine (HD2.out _).mono ?_; rintro e w6 ⟨A6, a6, rfl, f6, h6⟩; have d6 := d5.trans (h6.mono d5.size); have t6 := TV.out _ d6; have l6 := LV.out _ d6; obtain ⟨fn, tmps, assign, body, hy, hRd⟩ := HYY.out A5 a5 A6 a6 w6 d6 ((f5.move (Fr.below h6)).flat) f6.flat; simp only [encE] at hy)
                refine wpAnyIn_take (i := 14) (v := ?_) rfl rfl (by kernel_rfl) (by kernel_rfl) (by kernel_rfl) (fun _ _ _ h => h) ⟨Or.inl ⟨by rfl, ?_⟩, fun _ => rfl⟩ ?_
                case refine_2 => intro w; go_simp; first | done | with_reducible rfl
                refine wpAnyIn_ready (rs := [15]) (by kernel_rfl) (by simp) ?_
                refine AllReadyIn.cons rfl (fun K hK => ?_) ?_
                · go_simp
                  refine hRd.mono ?_
                  rintro e W3 ⟨rfl, hJ3, hk3⟩
                  refine hK _ _ ?_; clear hK K
                  refine wpAnyIn_take (i := 16) (v := ?_) rfl rfl (by kernel_rfl) (by kernel_rfl) (by kernel_rfl) (fun _ _ _ h => h) ⟨Or.inl ⟨by rfl, ?_⟩, fun _ => rfl⟩ ?_
                  case refine_2 => intro w; go_simp; first | done | with_reducible rfl
                  refine wpAnyIn_take (i := 17) (v := ?_) rfl rfl (by kernel_rfl) (by kernel_rfl) (by kernel_rfl) (fun _ _ _ h => h) ⟨Or.inl ⟨by rfl, ?_⟩, fun _ => rfl⟩ ?_
                  case refine_2 => intro w; go_simp; first | done | with_reducible rfl
                  refine wpAnyIn_done (by kernel_rfl) ?_ _
                  clear hy hRd HYY TV LV HD1 HD2
                  have hk4 : Below w.heap.size w W3 := (eV.trans (d6.mono eV.size)).trans (hk3.below (by have := eV.size; have := d6.size; omega) (fun b hb => hb))
                  have hk5 := hk3.size
                  have hk6 := d6.size
                  have HX2 : Hid (List.map EqD.v (xs ++ [⟨⟨v1, v2⟩, A5, a5, A6, a6⟩]) = eqnL ol qs.length 0 ((qs.map QueD.v).take (i + 1))) := Lib.hid (by rw [List.map_append, HXs.out, HSt.out]; rfl)
                  clear HXs HSt
                  gi_wp2
                  go_roundw
                  case rel => exact ⟨i + 1, by omega, by go_num, Lib.hid ⟨⟨_, HX2.out, hJ3⟩, hk4, by omega⟩⟩
                  case measure => simp [vInt]; omega
                exact AllReadyIn.nil
              exact AllReadyIn.nil
            exact AllReadyIn.nil
          exact AllReadyIn.nil
        refine AllReadyIn.cons rfl (fun K hK => ?_) ?_
        · go_simp
          refine hK _ _ ?_; clear hK K
          refine wpAnyIn_take (i := 12) (v := ?_) rfl rfl (by kernel_rfl) (by kernel_rfl) (by kernel_rfl) (fun _ _ _ h => h) ⟨Or.inl ⟨by rfl, ?_⟩, fun _ => rfl⟩ ?_
          case refine_2 => intro w; go_simp; first | done | with_reducible rfl
          refine wpAnyIn_ready (rs := [6]) (by kernel_rfl) (by simp) ?_
          refine AllReadyIn.cons rfl (fun K hK => ?_) ?_
          · go_simp
            refine hK _ _ ?_; clear hK K
            refine wpAnyIn_take (i := 7) (v := ?_) rfl rfl (by kernel_rfl) (by kernel_rfl) (by kernel_rfl) (fun _ _ _ h => h) ⟨Or.inl ⟨by rfl, ?_⟩, fun _ => rfl⟩ ?_
            case refine_2 => intro w; go_simp; first | done | with_reducible rfl
            refine wpAnyIn_ready (rs := [8]) (by kernel_rfl) (by simp) ?_
            refine AllReadyIn.cons rfl (fun K hK => ?_) ?_
            · go_simp
              gi_wp2_with (gi_at_call 106; refine (HD1.out _).mono ?_; rintro e w5 ⟨A5, a5, rfl, f5, h5⟩; have d5 := D0.trans h5; have t5 := TV.out _ d5; have l5 := LV.out _ d5)
              refine wpAnyIn_ready (rs := [13]) (by kernel_rfl) (by simp) ?_
              refine AllReadyIn.cons rfl (fun K hK => ?_) ?_
              · go_simp
                gi_wp2_with (gi_at_call 106; refine (HD2.out _).mono ?_; rintro e w6 ⟨A6, a6, rfl, f6, h6⟩; have d6 := d5.trans (h6.mono d5.size); have t6 := TV.out _ d6; have l6 := LV.out _ d6; obtain ⟨fn, tmps, assign, body, hy, hRd⟩ := HYY.out A5 a5 A6 a6 w6 d6 ((f5.move (Fr.below h6)).flat) f6.flat; simp only [encE] at hy)
                refine wpAnyIn_take (i := 14) (v := ?_) rfl rfl (by kernel_rfl) (by kernel_rfl) (by kernel_rfl) (fun _ _ _ h => h) ⟨Or.inl ⟨by rfl, ?_⟩, fun _ => rfl⟩ ?_
                case refine_2 => intro w; go_simp; first | done | with_reducible rfl
                refine wpAnyIn_ready (rs := [15]) (by kernel_rfl) (by simp) ?_
                refine AllReadyIn.cons rfl (fun K hK => ?_) ?_
                · go_simp
                  refine hRd.mono ?_
                  rintro e W3 ⟨rfl, hJ3, hk3⟩
                  refine hK _ _ ?_; clear hK K
                  refine wpAnyIn_take (i := 16) (v := ?_) rfl rfl (by kernel_rfl) (by kernel_rfl) (by kernel_rfl) (fun _ _ _ h => h) ⟨Or.inl ⟨by rfl, ?_⟩, fun _ => rfl⟩ ?_
                  case refine_2 => intro w; go_simp; first | done | with_reducible rfl
                  refine wpAnyIn_take (i := 17) (v := ?_) rfl rfl (by kernel_rfl) (by kernel_rfl) (by kernel_rfl) (fun _ _ _ h => h) ⟨Or.inl ⟨by rfl, ?_⟩, fun _ => rfl⟩ ?_
                  case refine_2 => intro w; go_simp; first | done | with_reducible rfl
                  refine wpAnyIn_done (by kernel_rfl) ?_ _
                  clear hy hRd HYY TV LV HD1 HD2
                  have hk4 : Below w.heap.size w W3 := (eV.trans (d6.mono eV.size)).trans (hk3.below (by have := eV.size; have := d6.size; omega) (fun b hb => hb))
                  have hk5 := hk3.size
                  have hk6 := d6.size
                  have HX2 : Hid (List.map EqD.v (xs ++ [⟨⟨v1, v2⟩, A5, a5, A6, a6⟩]) = eqnL ol qs.length 0 ((qs.map QueD.v).take (i + 1))) := Lib.hid (by rw [List.map_append, HXs.out, HSt.out]; rfl)
                  clear HXs HSt
                  gi_wp2
                  go_roundw
                  case rel => exact ⟨i + 1, by omega, by go_num, Lib.hid ⟨⟨_, HX2.out, hJ3⟩, hk4, by omega⟩⟩
                  case measure => simp [vInt]; omega
                exact AllReadyIn.nil
              exact AllReadyIn.nil
            exact AllReadyIn.nil
          exact AllReadyIn.nil
        exact AllReadyIn.nil
    · have hil : ¬ (i : Int) < (qs.length : Int) := by omega
      obtain rfl : i = qs.length := by omega
      have h1 : (qs.map QueD.v).take qs.length = qs.map QueD.v := List.take_of_length_le (by simp)
      rw [h1] at hxs
      clear hR
      gi_wp2
      go_end0
      exact ⟨⟨_, rfl⟩, xs, hxs, hJs⟩
end Go.Proofs.YtbkekdbabkncfaaGreat
