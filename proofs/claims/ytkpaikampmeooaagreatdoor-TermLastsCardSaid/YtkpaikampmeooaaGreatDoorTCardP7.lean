/- The program's store of reports: made, asked for one that is named, and for those of a kind. -/
import Derived.Test.YtkpaikampmeooaaGreatDoorTCardP6
import Derived.Test.YtkpaikampmeooaaGreatDoorAChkP
import Derived.BigRegion
import Derived.Test.YtkpaikampmeooaaGreatDoorTCardP4

namespace Go.Proofs.YtkpaikampmeooaaGreatDoor
open Go.RowKit Go.Maps

theorem know_put {K : List Rep} {r : Rep} (d : Int) (hd : r.made ≤ d) (hr : ∀ s, atR K r.id = some s → s = r) : putFn (repG K) (.int .i64 r.id) (.agg #[.int .i64 r.id, .int .i64 r.src, .int .i64 r.acc, .int .i64 r.made, .int .i64 r.about, .int .u8 r.kind, .int .i64 r.cents, .int .i64 r.of_]) = repG (knowStep d K r) := by
  unfold knowStep
  cases h : atR K r.id with
  | none => rw [if_pos ⟨hd, rfl⟩, put_snoc hr]
  | some s =>
    rw [if_neg (by simp)]
    obtain rfl := hr s h
    exact repG_same K s h
/-- A store's map is in block m. -/
abbrev storeV (m : Nat) : Value := .agg #[.map (some m)]

set_option maxRecDepth 100000 in
set_option maxHeartbeats 1000000 in
theorem newStore_any (l : List Rep) (A : Option Addr) (c : Nat) (d : Int) (w : World) (h : Reps w w.heap.size A l) (hl : l.length ≤ 1000) (hid : ∀ r ∈ l, (Lit.int .i64 r.id).wf = true) (h1 : OneId l) :
    Calls Tryz.prog 76 #[.slice A l.length c, .int .i64 d] w fun e w' => e = .returned (storeV (w.heap.size + 1)) ∧ MapFn w' Tryz.prog 3 (w.heap.size + 1) l.length (repG (knownL l d)) ∧ Below w.heap.size w w' := by
  have hmm := @run_makeMap Tryz.prog
  have HI0 : Hid (Blk (((w.alloc (.cells #[.map none] 106)).alloc (.map #[] 0)).alloc (.cells #[.map (some (w.heap.size + 1))] 106)) w.heap.size #[.map none] 106 ∧ Blk (((w.alloc (.cells #[.map none] 106)).alloc (.map #[] 0)).alloc (.cells #[.map (some (w.heap.size + 1))] 106)) (w.heap.size + 2) #[.map (some (w.heap.size + 1))] 106 ∧ MapFn (((w.alloc (.cells #[.map none] 106)).alloc (.map #[] 0)).alloc (.cells #[.map (some (w.heap.size + 1))] 106)) Tryz.prog 3 (w.heap.size + 1) 0 (repG (knownL (l.take 0) d)) ∧ Below w.heap.size w (((w.alloc (.cells #[.map none] 106)).alloc (.map #[] 0)).alloc (.cells #[.map (some (w.heap.size + 1))] 106))) := by
    have m0 := (MapFn.made (w.alloc (.cells #[.map none] 106)) Tryz.prog 3).alloc (.cells #[.map (some (w.heap.size + 1))] 106)
    have b2 := Blk.new ((w.alloc (.cells #[.map none] 106)).alloc (.map #[] 0)) #[.map (some (w.heap.size + 1))] 106
    simp only [World.size_alloc] at m0 b2
    exact Lib.hid ⟨((Blk.new w #[.map none] 106).alloc _).alloc _, b2, m0, (((Below.refl _ _).alloc (Nat.le_refl _) _).alloc (by simp) _).alloc (by simp; omega) _⟩
  have Hid' := Lib.hid hid
  have H1 := Lib.hid h1
  clear hid h1
  go_enter Tryz.func76, Tryz.ntmps76
  go_wp2_with fail
  go_loopw [12] (fun ii wr => ∃ i : Nat, i ≤ l.length ∧ ii = .int .i64 i ∧ Hid (Blk wr w.heap.size #[.map none] 106 ∧ Blk wr (w.heap.size + 2) #[.map (some (w.heap.size + 1))] 106 ∧ MapFn wr Tryz.prog 3 (w.heap.size + 1) i (repG (knownL (l.take i) d)) ∧ Below w.heap.size w wr)) (fun ii _ => l.length - (vInt ii).toNat)
  case atStart => exact ⟨0, Nat.zero_le _, rfl, HI0⟩
  case round =>
    obtain ⟨i, hi, rfl, hR⟩ := hrel
    clear HI0
    obtain ⟨B0, B2, hM, hB⟩ := hR.out
    have k2 := B2.cell
    by_cases hlt : i < l.length
    · have hil : (i : Int) < (l.length : Int) := by omega
      obtain ⟨b, off, rfl, hb, C⟩ := (h.later hB).eight hlt
      have hwf := Hid'.out _ (List.getElem_mem hlt)
      have HT : Hid (knownL (l.take (i + 1)) d = knowStep d (knownL (l.take i) d) l[i]) := Lib.hid (by rw [← knownL_snoc, List.take_succ_eq_append_getElem hlt])
      have HN : Hid (∀ s, atR (knownL (l.take i) d) l[i].id = some s → s = l[i]) := Lib.hid (fun s hs => by
        obtain ⟨q1, q2⟩ := atR_some hs
        have q3 := ((knownL_spec (d := d) (l.take i)).2.1 s q1).1
        exact H1.out s (List.mem_of_mem_take q3) _ (List.getElem_mem hlt) q2)
      generalize l[i] = r at *
      obtain ⟨c0, c1, c2, c3, c4, c5, c6, c7⟩ := C
      have hB1 := hB.alloc hB.size (.cells #[.int .i64 r.id, .int .i64 r.src, .int .i64 r.acc, .int .i64 r.made, .int .i64 r.about, .int .u8 r.kind, .int .i64 r.cents, .int .i64 r.of_] 56)
      by_cases hd : r.made ≤ d
      · obtain ⟨w3, hrun3, hput, hg3⟩ := (hM.alloc (.cells #[.int .i64 r.id, .int .i64 r.src, .int .i64 r.acc, .int .i64 r.made, .int .i64 r.about, .int .u8 r.kind, .int .i64 r.cents, .int .i64 r.of_] 56)).put (int_keyed Tryz.underlying3) Tryz.underlying104 (by unfold maxLen; omega) (keyOf_int_mk Tryz.underlying3 hwf) (val := .agg #[.int .i64 r.id, .int .i64 r.src, .int .i64 r.acc, .int .i64 r.made, .int .i64 r.about, .int .u8 r.kind, .int .i64 r.cents, .int .i64 r.of_])
        rw [know_put d hd HN.out, ← HT.out] at hput
        have HJ : Hid (Blk w3 w.heap.size #[.map none] 106 ∧ Blk w3 (w.heap.size + 2) #[.map (some (w.heap.size + 1))] 106 ∧ MapFn w3 Tryz.prog 3 (w.heap.size + 1) (i + 1) (repG (knownL (l.take (i + 1)) d)) ∧ Below w.heap.size w w3) := Lib.hid ⟨(B0.alloc _).grown hg3 (by simp), (B2.alloc _).grown hg3 (by simp), hput, hB1.grown hg3 hB1.size (fun k e => by have := Option.some.inj e; omega)⟩
        have b2lt := B2.lt
        clear hput hM hR B0 B2 hB hB1 hg3
        go_wp2_with fail
        go_roundw
        case rel => exact ⟨i + 1, by omega, by go_num, HJ⟩
        case measure => simp [vInt]; omega
      · have HJ : Hid (Blk (wr.alloc (.cells #[.int .i64 r.id, .int .i64 r.src, .int .i64 r.acc, .int .i64 r.made, .int .i64 r.about, .int .u8 r.kind, .int .i64 r.cents, .int .i64 r.of_] 56)) w.heap.size #[.map none] 106 ∧ Blk (wr.alloc (.cells #[.int .i64 r.id, .int .i64 r.src, .int .i64 r.acc, .int .i64 r.made, .int .i64 r.about, .int .u8 r.kind, .int .i64 r.cents, .int .i64 r.of_] 56)) (w.heap.size + 2) #[.map (some (w.heap.size + 1))] 106 ∧ MapFn (wr.alloc (.cells #[.int .i64 r.id, .int .i64 r.src, .int .i64 r.acc, .int .i64 r.made, .int .i64 r.about, .int .u8 r.kind, .int .i64 r.cents, .int .i64 r.of_] 56)) Tryz.prog 3 (w.heap.size + 1) (i + 1) (repG (knownL (l.take (i + 1)) d)) ∧ Below w.heap.size w (wr.alloc (.cells #[.int .i64 r.id, .int .i64 r.src, .int .i64 r.acc, .int .i64 r.made, .int .i64 r.about, .int .u8 r.kind, .int .i64 r.cents, .int .i64 r.of_] 56))) := Lib.hid ⟨B0.alloc _, B2.alloc _, by rw [HT.out]; unfold knowStep; rw [if_neg (fun e => hd e.1)]; exact (hM.alloc _).mono (by omega), hB1⟩
        have b2lt := B2.lt
        clear hM hR B0 B2 hB hB1
        go_wp2_with fail
        go_roundw
        case rel => exact ⟨i + 1, by omega, by go_num, HJ⟩
        case measure => simp [vInt]; omega
    · have hil : ¬ (i : Int) < (l.length : Int) := by omega
      have hii : i = l.length := by omega
      subst hii
      rw [List.take_length] at hM
      have k0 := B0.cell
      have f0 := B0.free
      have b2lt := B2.lt
      have HM := Lib.hid (hM.setCell (a := ⟨w.heap.size, 0, none⟩) (by simp) (.map (some (w.heap.size + 1))))
      have HB := Lib.hid (hB.setCell (p := ⟨w.heap.size, 0, none⟩) (by simp) (.map (some (w.heap.size + 1))))
      have r0 := (B0.set 0 (.map (some (w.heap.size + 1)))).cell
      clear hR hM hB
      go_wp2_with fail
      refine bodyPost_ret (v := storeV (w.heap.size + 1)) ?hres rfl ?hpost
      case hres => simp [results, Tryz.results76, go_sem, r0]
      case hpost => exact ⟨rfl, HM.out, HB.out⟩

end Go.Proofs.YtkpaikampmeooaaGreatDoor

namespace Go.Proofs.YtkpaikampmeooaaGreatDoor
open Go.RowKit Go.Maps

set_option maxRecDepth 100000 in
set_option maxHeartbeats 1000000 in
theorem ofKind_any (m nn : Nat) (K : List Rep) (k : Int) (w : World) (hM : MapFn w Tryz.prog 3 m nn (repG K)) (hK : (K.map Rep.id).Nodup) (hl : K.length ≤ 1000) :
    Calls Tryz.prog 100 #[storeV m, .int .u8 k] w fun e w' => ∃ A' c', ∃ cs : List Rep, e = .returned (.slice A' cs.length c') ∧ cs.Perm (K.filter (kindK k)) ∧ cs.Pairwise leM ∧ Reps w' w'.heap.size A' cs ∧ Below w.heap.size w w' := by
  have b1 := (Below.refl w.heap.size w).alloc (Nat.le_refl _) (.cells #[.map (some m)] 106)
  have b2 := b1.alloc b1.size (.cells #[.int .u8 k] 5)
  have b3 := b2.alloc b2.size (.cells #[.map (some m)] 104)
  have b4 := b3.alloc b3.size (.cells #[.func (.func 115) #[] #[], .func (.func 84) #[] #[]] 48)
  have k1 := Blk.new (w.alloc (.cells #[.map (some m)] 106)) #[.int .u8 k] 5
  have k2 := Blk.new ((w.alloc (.cells #[.map (some m)] 106)).alloc (.cells #[.int .u8 k] 5)) #[.map (some m)] 104
  have k3 := Blk.new (((w.alloc (.cells #[.map (some m)] 106)).alloc (.cells #[.int .u8 k] 5)).alloc (.cells #[.map (some m)] 104)) #[.func (.func 115) #[] #[], .func (.func 84) #[] #[]] 48
  simp only [World.size_alloc] at k1 k2 k3
  have k1' := (k1.alloc (.cells #[.map (some m)] 104)).alloc (.cells #[.func (.func 115) #[] #[], .func (.func 84) #[] #[]] 48)
  have k2' := k2.alloc (.cells #[.func (.func 115) #[] #[], .func (.func 84) #[] #[]] 48)
  have HV := Lib.hid (fun W => valuesM_any m W)
  have HB := Lib.hid (byM_any (w.heap.size + 1 + 1) m nn K hl hK (w.heap.size + 1 + 1 + 1) _ k2'.lt (k2'.cell 0) (hM.below b4 hM.lt) k3.lt (k3.cell 0) (k3.cell 1))
  have HD := Lib.hid (fun zs A cap base W h1 h2 h3 h4 h5 => deleteFunc_any zs A cap base k (w.heap.size + 1) W h1 h2 h3 h4 h5)
  have Hk1 := Lib.hid (k1'.cell 0)
  have Hk1l := Lib.hid k1'.lt
  have Hb4 := Lib.hid b4
  clear b1 b2 b3 b4 k1 k2 k3 k1' k2' hM
  go_enter Tryz.func100, Tryz.ntmps100
  go_wp2_with (first
    | (go_at_call 114; (with_reducible refine (HV.out _).mono ?_); rintro e w1 ⟨rfl, rfl⟩)
    | (go_at_call 82; (with_reducible refine (HB.out).mono ?_); rintro e w2 ⟨A', c', l', rfl, hp, hs, hown, hb5⟩; have hl5 : l'.length ≤ 1000 := Nat.le_trans (Nat.le_of_eq hp.length_eq) hl; have HD2 := Lib.hid (HD.out l' A' c' _ w2 hown hb5.size ((hb5.cell (p := ⟨w.heap.size + 1, 0, none⟩) Hk1l.out).trans Hk1.out) Hk1l.out hl5); have Hb5 := Lib.hid hb5; have Hp := Lib.hid hp; have Hs := Lib.hid hs; clear hb5 hp hs hown)
    | (go_at_call 116; (with_reducible refine (HD2.out).mono ?_); rintro e w3 ⟨A2, c2, rfl, hR, hb6⟩))
  go_ret
  exact ⟨A2, c2, l'.filter (kindK k), rfl, Hp.out.filter _, Hs.out.filter _, hR, Hb4.out.trans ((Hb5.out.trans hb6).mono Hb4.out.size)⟩

end Go.Proofs.YtkpaikampmeooaaGreatDoor

namespace Go.Proofs.YtkpaikampmeooaaGreatDoor
open Go.RowKit Go.Maps

set_option maxRecDepth 100000 in
set_option maxHeartbeats 2000000 in
theorem named_none (m nn : Nat) (K : List Rep) (r : Rep) (w : World) (hM : MapFn w Tryz.prog 3 m nn (repG K)) (hwf : (Lit.int .i64 r.of_).wf = true) (ha : atR K r.of_ = none) :
    Calls Tryz.prog 101 #[storeV m, .agg #[.int .i64 r.id, .int .i64 r.src, .int .i64 r.acc, .int .i64 r.made, .int .i64 r.about, .int .u8 r.kind, .int .i64 r.cents, .int .i64 r.of_]] w fun e w' => e = .returned (.tuple #[.agg #[.int .i64 0, .int .i64 0, .int .i64 0, .int .i64 0, .int .i64 0, .int .u8 0, .int .i64 0, .int .i64 0], .bool false]) ∧ Below w.heap.size w w' := by
  have look := (((hM.alloc (.cells #[.map (some m)] 106)).alloc (.cells #[.int .i64 r.id, .int .i64 r.src, .int .i64 r.acc, .int .i64 r.made, .int .i64 r.about, .int .u8 r.kind, .int .i64 r.cents, .int .i64 r.of_] 56)).alloc (.cells #[.int .i64 0, .int .i64 0, .int .i64 0, .int .i64 0, .int .i64 0, .int .u8 0, .int .i64 0, .int .i64 0] 56)).lookOk (int_keyed Tryz.underlying3) Tryz.underlying104 (repZero _) (keyOf_int_mk Tryz.underlying3 hwf)
  rw [repG_at, ha] at look
  simp only [Option.map_none, Option.getD_none, Option.isSome_none] at look
  clear hM
  have k1 := ((Blk.new (w.alloc (.cells #[.map (some m)] 106)) #[.int .i64 r.id, .int .i64 r.src, .int .i64 r.acc, .int .i64 r.made, .int .i64 r.about, .int .u8 r.kind, .int .i64 r.cents, .int .i64 r.of_] 56).alloc (.cells #[.int .i64 0, .int .i64 0, .int .i64 0, .int .i64 0, .int .i64 0, .int .u8 0, .int .i64 0, .int .i64 0] 56)).alloc (.cells #[.int .i64 0, .int .i64 0, .int .i64 0, .int .i64 0, .int .i64 0, .int .u8 0, .int .i64 0, .int .i64 0] 56)
  have k2 := (Blk.new ((w.alloc (.cells #[.map (some m)] 106)).alloc (.cells #[.int .i64 r.id, .int .i64 r.src, .int .i64 r.acc, .int .i64 r.made, .int .i64 r.about, .int .u8 r.kind, .int .i64 r.cents, .int .i64 r.of_] 56)) #[.int .i64 0, .int .i64 0, .int .i64 0, .int .i64 0, .int .i64 0, .int .u8 0, .int .i64 0, .int .i64 0] 56).alloc (.cells #[.int .i64 0, .int .i64 0, .int .i64 0, .int .i64 0, .int .i64 0, .int .u8 0, .int .i64 0, .int .i64 0] 56)
  have k3 := Blk.new (((w.alloc (.cells #[.map (some m)] 106)).alloc (.cells #[.int .i64 r.id, .int .i64 r.src, .int .i64 r.acc, .int .i64 r.made, .int .i64 r.about, .int .u8 r.kind, .int .i64 r.cents, .int .i64 r.of_] 56)).alloc (.cells #[.int .i64 0, .int .i64 0, .int .i64 0, .int .i64 0, .int .i64 0, .int .u8 0, .int .i64 0, .int .i64 0] 56)) #[.int .i64 0, .int .i64 0, .int .i64 0, .int .i64 0, .int .i64 0, .int .u8 0, .int .i64 0, .int .i64 0] 56
  simp only [World.size_alloc] at k1 k2 k3
  have b3 := ((((Below.refl w.heap.size w).alloc (Nat.le_refl _) (.cells #[.map (some m)] 106)).alloc (by simp) (.cells #[.int .i64 r.id, .int .i64 r.src, .int .i64 r.acc, .int .i64 r.made, .int .i64 r.about, .int .u8 r.kind, .int .i64 r.cents, .int .i64 r.of_] 56)).alloc (by simp; omega) (.cells #[.int .i64 0, .int .i64 0, .int .i64 0, .int .i64 0, .int .i64 0, .int .u8 0, .int .i64 0, .int .i64 0] 56)).alloc (by simp; omega) (.cells #[.int .i64 0, .int .i64 0, .int .i64 0, .int .i64 0, .int .i64 0, .int .u8 0, .int .i64 0, .int .i64 0] 56)
  go_enter Tryz.func101, Tryz.ntmps101
  go_upto_region 2 with fail
  generalize ((((w.alloc (.cells #[.map (some m)] 106)).alloc (.cells #[.int .i64 r.id, .int .i64 r.src, .int .i64 r.acc, .int .i64 r.made, .int .i64 r.about, .int .u8 r.kind, .int .i64 r.cents, .int .i64 r.of_] 56)).alloc (.cells #[.int .i64 0, .int .i64 0, .int .i64 0, .int .i64 0, .int .i64 0, .int .u8 0, .int .i64 0, .int .i64 0] 56)).alloc (.cells #[.int .i64 0, .int .i64 0, .int .i64 0, .int .i64 0, .int .i64 0, .int .u8 0, .int .i64 0, .int .i64 0] 56)) = V at *
  have c1 := k1.cell
  have c2 := k2.cell
  have f2 := k2.free
  have c3 := k3.cell
  go_region
  all_goals (go_wp2_with fail)
  all_goals have hrc := ((((((((k2.set 0 (.int .i64 0)).set 1 (.int .i64 0)).set 2 (.int .i64 0)).set 3 (.int .i64 0)).set 4 (.int .i64 0)).set 5 (.int .u8 0)).set 6 (.int .i64 0)).set 7 (.int .i64 0)).cell
  all_goals exact bodyPost_ret (v := .tuple #[.agg #[.int .i64 0, .int .i64 0, .int .i64 0, .int .i64 0, .int .i64 0, .int .u8 0, .int .i64 0, .int .i64 0], .bool false]) (by simp [results, Tryz.results101, go_sem, hrc]) rfl ⟨rfl, ((((((((b3.setCell (p := ⟨w.heap.size + 1 + 1, 0, none⟩) (by show w.heap.size ≤ w.heap.size + 1 + 1; omega) (.int .i64 0)).setCell (p := ⟨w.heap.size + 1 + 1, 1, none⟩) (by show w.heap.size ≤ w.heap.size + 1 + 1; omega) (.int .i64 0)).setCell (p := ⟨w.heap.size + 1 + 1, 2, none⟩) (by show w.heap.size ≤ w.heap.size + 1 + 1; omega) (.int .i64 0)).setCell (p := ⟨w.heap.size + 1 + 1, 3, none⟩) (by show w.heap.size ≤ w.heap.size + 1 + 1; omega) (.int .i64 0)).setCell (p := ⟨w.heap.size + 1 + 1, 4, none⟩) (by show w.heap.size ≤ w.heap.size + 1 + 1; omega) (.int .i64 0)).setCell (p := ⟨w.heap.size + 1 + 1, 5, none⟩) (by show w.heap.size ≤ w.heap.size + 1 + 1; omega) (.int .u8 0)).setCell (p := ⟨w.heap.size + 1 + 1, 6, none⟩) (by show w.heap.size ≤ w.heap.size + 1 + 1; omega) (.int .i64 0)).setCell (p := ⟨w.heap.size + 1 + 1, 7, none⟩) (by show w.heap.size ≤ w.heap.size + 1 + 1; omega) (.int .i64 0)).drew⟩

set_option maxRecDepth 100000 in
set_option maxHeartbeats 4000000 in
theorem named_some (m nn : Nat) (K : List Rep) (r s : Rep) (w : World) (hM : MapFn w Tryz.prog 3 m nn (repG K)) (hwf : (Lit.int .i64 r.of_).wf = true) (ha : atR K r.of_ = some s) :
    Calls Tryz.prog 101 #[storeV m, .agg #[.int .i64 r.id, .int .i64 r.src, .int .i64 r.acc, .int .i64 r.made, .int .i64 r.about, .int .u8 r.kind, .int .i64 r.cents, .int .i64 r.of_]] w fun e w' => e = .returned (.tuple #[.agg #[.int .i64 s.id, .int .i64 s.src, .int .i64 s.acc, .int .i64 s.made, .int .i64 s.about, .int .u8 s.kind, .int .i64 s.cents, .int .i64 s.of_], .bool (decide (s.src = r.src) && decide (s.acc = r.acc))]) ∧ Below w.heap.size w w' := by
  have look := (((hM.alloc (.cells #[.map (some m)] 106)).alloc (.cells #[.int .i64 r.id, .int .i64 r.src, .int .i64 r.acc, .int .i64 r.made, .int .i64 r.about, .int .u8 r.kind, .int .i64 r.cents, .int .i64 r.of_] 56)).alloc (.cells #[.int .i64 0, .int .i64 0, .int .i64 0, .int .i64 0, .int .i64 0, .int .u8 0, .int .i64 0, .int .i64 0] 56)).lookOk (int_keyed Tryz.underlying3) Tryz.underlying104 (repZero _) (keyOf_int_mk Tryz.underlying3 hwf)
  rw [repG_at, ha] at look
  simp only [Option.map_some, Option.getD_some, Option.isSome_some] at look
  clear hM ha
  by_cases e1 : s.src = r.src
  · have f1 : (s.src == r.src) = true := by simp [e1]
    by_cases e2 : s.acc = r.acc
    · have g2 : (s.acc == r.acc) = true := by simp [e2]
      rw [show (decide (s.src = r.src) && decide (s.acc = r.acc)) = true by simp [e1, e2]]
      clear e1 e2
      have k1 := ((Blk.new (w.alloc (.cells #[.map (some m)] 106)) #[.int .i64 r.id, .int .i64 r.src, .int .i64 r.acc, .int .i64 r.made, .int .i64 r.about, .int .u8 r.kind, .int .i64 r.cents, .int .i64 r.of_] 56).alloc (.cells #[.int .i64 0, .int .i64 0, .int .i64 0, .int .i64 0, .int .i64 0, .int .u8 0, .int .i64 0, .int .i64 0] 56)).alloc (.cells #[.int .i64 s.id, .int .i64 s.src, .int .i64 s.acc, .int .i64 s.made, .int .i64 s.about, .int .u8 s.kind, .int .i64 s.cents, .int .i64 s.of_] 56)
      have k2 := (Blk.new ((w.alloc (.cells #[.map (some m)] 106)).alloc (.cells #[.int .i64 r.id, .int .i64 r.src, .int .i64 r.acc, .int .i64 r.made, .int .i64 r.about, .int .u8 r.kind, .int .i64 r.cents, .int .i64 r.of_] 56)) #[.int .i64 0, .int .i64 0, .int .i64 0, .int .i64 0, .int .i64 0, .int .u8 0, .int .i64 0, .int .i64 0] 56).alloc (.cells #[.int .i64 s.id, .int .i64 s.src, .int .i64 s.acc, .int .i64 s.made, .int .i64 s.about, .int .u8 s.kind, .int .i64 s.cents, .int .i64 s.of_] 56)
      have k3 := Blk.new (((w.alloc (.cells #[.map (some m)] 106)).alloc (.cells #[.int .i64 r.id, .int .i64 r.src, .int .i64 r.acc, .int .i64 r.made, .int .i64 r.about, .int .u8 r.kind, .int .i64 r.cents, .int .i64 r.of_] 56)).alloc (.cells #[.int .i64 0, .int .i64 0, .int .i64 0, .int .i64 0, .int .i64 0, .int .u8 0, .int .i64 0, .int .i64 0] 56)) #[.int .i64 s.id, .int .i64 s.src, .int .i64 s.acc, .int .i64 s.made, .int .i64 s.about, .int .u8 s.kind, .int .i64 s.cents, .int .i64 s.of_] 56
      simp only [World.size_alloc] at k1 k2 k3
      have b3 := ((((Below.refl w.heap.size w).alloc (Nat.le_refl _) (.cells #[.map (some m)] 106)).alloc (by simp) (.cells #[.int .i64 r.id, .int .i64 r.src, .int .i64 r.acc, .int .i64 r.made, .int .i64 r.about, .int .u8 r.kind, .int .i64 r.cents, .int .i64 r.of_] 56)).alloc (by simp; omega) (.cells #[.int .i64 0, .int .i64 0, .int .i64 0, .int .i64 0, .int .i64 0, .int .u8 0, .int .i64 0, .int .i64 0] 56)).alloc (by simp; omega) (.cells #[.int .i64 s.id, .int .i64 s.src, .int .i64 s.acc, .int .i64 s.made, .int .i64 s.about, .int .u8 s.kind, .int .i64 s.cents, .int .i64 s.of_] 56)
      go_enter Tryz.func101, Tryz.ntmps101
      go_upto_region 2 with fail
      generalize ((((w.alloc (.cells #[.map (some m)] 106)).alloc (.cells #[.int .i64 r.id, .int .i64 r.src, .int .i64 r.acc, .int .i64 r.made, .int .i64 r.about, .int .u8 r.kind, .int .i64 r.cents, .int .i64 r.of_] 56)).alloc (.cells #[.int .i64 0, .int .i64 0, .int .i64 0, .int .i64 0, .int .i64 0, .int .u8 0, .int .i64 0, .int .i64 0] 56)).alloc (.cells #[.int .i64 s.id, .int .i64 s.src, .int .i64 s.acc, .int .i64 s.made, .int .i64 s.about, .int .u8 s.kind, .int .i64 s.cents, .int .i64 s.of_] 56)) = V at *
      have c1 := k1.cell
      have c2 := k2.cell
      have f2 := k2.free
      have c3 := k3.cell
      go_region
      all_goals (go_wp2_with fail)
      all_goals have hrc := ((((((((k2.set 0 (.int .i64 s.id)).set 1 (.int .i64 s.src)).set 2 (.int .i64 s.acc)).set 3 (.int .i64 s.made)).set 4 (.int .i64 s.about)).set 5 (.int .u8 s.kind)).set 6 (.int .i64 s.cents)).set 7 (.int .i64 s.of_)).cell
      all_goals exact bodyPost_ret (v := .tuple #[.agg #[.int .i64 s.id, .int .i64 s.src, .int .i64 s.acc, .int .i64 s.made, .int .i64 s.about, .int .u8 s.kind, .int .i64 s.cents, .int .i64 s.of_], .bool true]) (by simp [results, Tryz.results101, go_sem, hrc]) rfl ⟨rfl, ((((((((b3.setCell (p := ⟨w.heap.size + 1 + 1, 0, none⟩) (by show w.heap.size ≤ w.heap.size + 1 + 1; omega) (.int .i64 s.id)).setCell (p := ⟨w.heap.size + 1 + 1, 1, none⟩) (by show w.heap.size ≤ w.heap.size + 1 + 1; omega) (.int .i64 s.src)).setCell (p := ⟨w.heap.size + 1 + 1, 2, none⟩) (by show w.heap.size ≤ w.heap.size + 1 + 1; omega) (.int .i64 s.acc)).setCell (p := ⟨w.heap.size + 1 + 1, 3, none⟩) (by show w.heap.size ≤ w.heap.size + 1 + 1; omega) (.int .i64 s.made)).setCell (p := ⟨w.heap.size + 1 + 1, 4, none⟩) (by show w.heap.size ≤ w.heap.size + 1 + 1; omega) (.int .i64 s.about)).setCell (p := ⟨w.heap.size + 1 + 1, 5, none⟩) (by show w.heap.size ≤ w.heap.size + 1 + 1; omega) (.int .u8 s.kind)).setCell (p := ⟨w.heap.size + 1 + 1, 6, none⟩) (by show w.heap.size ≤ w.heap.size + 1 + 1; omega) (.int .i64 s.cents)).setCell (p := ⟨w.heap.size + 1 + 1, 7, none⟩) (by show w.heap.size ≤ w.heap.size + 1 + 1; omega) (.int .i64 s.of_)).drew⟩
    · have g2 : (s.acc == r.acc) = false := by simpa using e2
      rw [show (decide (s.src = r.src) && decide (s.acc = r.acc)) = false by simp [e2]]
      clear e1 e2
      have k1 := ((Blk.new (w.alloc (.cells #[.map (some m)] 106)) #[.int .i64 r.id, .int .i64 r.src, .int .i64 r.acc, .int .i64 r.made, .int .i64 r.about, .int .u8 r.kind, .int .i64 r.cents, .int .i64 r.of_] 56).alloc (.cells #[.int .i64 0, .int .i64 0, .int .i64 0, .int .i64 0, .int .i64 0, .int .u8 0, .int .i64 0, .int .i64 0] 56)).alloc (.cells #[.int .i64 s.id, .int .i64 s.src, .int .i64 s.acc, .int .i64 s.made, .int .i64 s.about, .int .u8 s.kind, .int .i64 s.cents, .int .i64 s.of_] 56)
      have k2 := (Blk.new ((w.alloc (.cells #[.map (some m)] 106)).alloc (.cells #[.int .i64 r.id, .int .i64 r.src, .int .i64 r.acc, .int .i64 r.made, .int .i64 r.about, .int .u8 r.kind, .int .i64 r.cents, .int .i64 r.of_] 56)) #[.int .i64 0, .int .i64 0, .int .i64 0, .int .i64 0, .int .i64 0, .int .u8 0, .int .i64 0, .int .i64 0] 56).alloc (.cells #[.int .i64 s.id, .int .i64 s.src, .int .i64 s.acc, .int .i64 s.made, .int .i64 s.about, .int .u8 s.kind, .int .i64 s.cents, .int .i64 s.of_] 56)
      have k3 := Blk.new (((w.alloc (.cells #[.map (some m)] 106)).alloc (.cells #[.int .i64 r.id, .int .i64 r.src, .int .i64 r.acc, .int .i64 r.made, .int .i64 r.about, .int .u8 r.kind, .int .i64 r.cents, .int .i64 r.of_] 56)).alloc (.cells #[.int .i64 0, .int .i64 0, .int .i64 0, .int .i64 0, .int .i64 0, .int .u8 0, .int .i64 0, .int .i64 0] 56)) #[.int .i64 s.id, .int .i64 s.src, .int .i64 s.acc, .int .i64 s.made, .int .i64 s.about, .int .u8 s.kind, .int .i64 s.cents, .int .i64 s.of_] 56
      simp only [World.size_alloc] at k1 k2 k3
      have b3 := ((((Below.refl w.heap.size w).alloc (Nat.le_refl _) (.cells #[.map (some m)] 106)).alloc (by simp) (.cells #[.int .i64 r.id, .int .i64 r.src, .int .i64 r.acc, .int .i64 r.made, .int .i64 r.about, .int .u8 r.kind, .int .i64 r.cents, .int .i64 r.of_] 56)).alloc (by simp; omega) (.cells #[.int .i64 0, .int .i64 0, .int .i64 0, .int .i64 0, .int .i64 0, .int .u8 0, .int .i64 0, .int .i64 0] 56)).alloc (by simp; omega) (.cells #[.int .i64 s.id, .int .i64 s.src, .int .i64 s.acc, .int .i64 s.made, .int .i64 s.about, .int .u8 s.kind, .int .i64 s.cents, .int .i64 s.of_] 56)
      go_enter Tryz.func101, Tryz.ntmps101
      go_upto_region 2 with fail
      generalize ((((w.alloc (.cells #[.map (some m)] 106)).alloc (.cells #[.int .i64 r.id, .int .i64 r.src, .int .i64 r.acc, .int .i64 r.made, .int .i64 r.about, .int .u8 r.kind, .int .i64 r.cents, .int .i64 r.of_] 56)).alloc (.cells #[.int .i64 0, .int .i64 0, .int .i64 0, .int .i64 0, .int .i64 0, .int .u8 0, .int .i64 0, .int .i64 0] 56)).alloc (.cells #[.int .i64 s.id, .int .i64 s.src, .int .i64 s.acc, .int .i64 s.made, .int .i64 s.about, .int .u8 s.kind, .int .i64 s.cents, .int .i64 s.of_] 56)) = V at *
      have c1 := k1.cell
      have c2 := k2.cell
      have f2 := k2.free
      have c3 := k3.cell
      go_region
      all_goals (go_wp2_with fail)
      all_goals have hrc := ((((((((k2.set 0 (.int .i64 s.id)).set 1 (.int .i64 s.src)).set 2 (.int .i64 s.acc)).set 3 (.int .i64 s.made)).set 4 (.int .i64 s.about)).set 5 (.int .u8 s.kind)).set 6 (.int .i64 s.cents)).set 7 (.int .i64 s.of_)).cell
      all_goals exact bodyPost_ret (v := .tuple #[.agg #[.int .i64 s.id, .int .i64 s.src, .int .i64 s.acc, .int .i64 s.made, .int .i64 s.about, .int .u8 s.kind, .int .i64 s.cents, .int .i64 s.of_], .bool false]) (by simp [results, Tryz.results101, go_sem, hrc]) rfl ⟨rfl, ((((((((b3.setCell (p := ⟨w.heap.size + 1 + 1, 0, none⟩) (by show w.heap.size ≤ w.heap.size + 1 + 1; omega) (.int .i64 s.id)).setCell (p := ⟨w.heap.size + 1 + 1, 1, none⟩) (by show w.heap.size ≤ w.heap.size + 1 + 1; omega) (.int .i64 s.src)).setCell (p := ⟨w.heap.size + 1 + 1, 2, none⟩) (by show w.heap.size ≤ w.heap.size + 1 + 1; omega) (.int .i64 s.acc)).setCell (p := ⟨w.heap.size + 1 + 1, 3, none⟩) (by show w.heap.size ≤ w.heap.size + 1 + 1; omega) (.int .i64 s.made)).setCell (p := ⟨w.heap.size + 1 + 1, 4, none⟩) (by show w.heap.size ≤ w.heap.size + 1 + 1; omega) (.int .i64 s.about)).setCell (p := ⟨w.heap.size + 1 + 1, 5, none⟩) (by show w.heap.size ≤ w.heap.size + 1 + 1; omega) (.int .u8 s.kind)).setCell (p := ⟨w.heap.size + 1 + 1, 6, none⟩) (by show w.heap.size ≤ w.heap.size + 1 + 1; omega) (.int .i64 s.cents)).setCell (p := ⟨w.heap.size + 1 + 1, 7, none⟩) (by show w.heap.size ≤ w.heap.size + 1 + 1; omega) (.int .i64 s.of_)).drew⟩
  · have f1 : (s.src == r.src) = false := by simpa using e1
    rw [show (decide (s.src = r.src) && decide (s.acc = r.acc)) = false by simp [e1]]
    clear e1
    have k1 := ((Blk.new (w.alloc (.cells #[.map (some m)] 106)) #[.int .i64 r.id, .int .i64 r.src, .int .i64 r.acc, .int .i64 r.made, .int .i64 r.about, .int .u8 r.kind, .int .i64 r.cents, .int .i64 r.of_] 56).alloc (.cells #[.int .i64 0, .int .i64 0, .int .i64 0, .int .i64 0, .int .i64 0, .int .u8 0, .int .i64 0, .int .i64 0] 56)).alloc (.cells #[.int .i64 s.id, .int .i64 s.src, .int .i64 s.acc, .int .i64 s.made, .int .i64 s.about, .int .u8 s.kind, .int .i64 s.cents, .int .i64 s.of_] 56)
    have k2 := (Blk.new ((w.alloc (.cells #[.map (some m)] 106)).alloc (.cells #[.int .i64 r.id, .int .i64 r.src, .int .i64 r.acc, .int .i64 r.made, .int .i64 r.about, .int .u8 r.kind, .int .i64 r.cents, .int .i64 r.of_] 56)) #[.int .i64 0, .int .i64 0, .int .i64 0, .int .i64 0, .int .i64 0, .int .u8 0, .int .i64 0, .int .i64 0] 56).alloc (.cells #[.int .i64 s.id, .int .i64 s.src, .int .i64 s.acc, .int .i64 s.made, .int .i64 s.about, .int .u8 s.kind, .int .i64 s.cents, .int .i64 s.of_] 56)
    have k3 := Blk.new (((w.alloc (.cells #[.map (some m)] 106)).alloc (.cells #[.int .i64 r.id, .int .i64 r.src, .int .i64 r.acc, .int .i64 r.made, .int .i64 r.about, .int .u8 r.kind, .int .i64 r.cents, .int .i64 r.of_] 56)).alloc (.cells #[.int .i64 0, .int .i64 0, .int .i64 0, .int .i64 0, .int .i64 0, .int .u8 0, .int .i64 0, .int .i64 0] 56)) #[.int .i64 s.id, .int .i64 s.src, .int .i64 s.acc, .int .i64 s.made, .int .i64 s.about, .int .u8 s.kind, .int .i64 s.cents, .int .i64 s.of_] 56
    simp only [World.size_alloc] at k1 k2 k3
    have b3 := ((((Below.refl w.heap.size w).alloc (Nat.le_refl _) (.cells #[.map (some m)] 106)).alloc (by simp) (.cells #[.int .i64 r.id, .int .i64 r.src, .int .i64 r.acc, .int .i64 r.made, .int .i64 r.about, .int .u8 r.kind, .int .i64 r.cents, .int .i64 r.of_] 56)).alloc (by simp; omega) (.cells #[.int .i64 0, .int .i64 0, .int .i64 0, .int .i64 0, .int .i64 0, .int .u8 0, .int .i64 0, .int .i64 0] 56)).alloc (by simp; omega) (.cells #[.int .i64 s.id, .int .i64 s.src, .int .i64 s.acc, .int .i64 s.made, .int .i64 s.about, .int .u8 s.kind, .int .i64 s.cents, .int .i64 s.of_] 56)
    go_enter Tryz.func101, Tryz.ntmps101
    go_upto_region 2 with fail
    generalize ((((w.alloc (.cells #[.map (some m)] 106)).alloc (.cells #[.int .i64 r.id, .int .i64 r.src, .int .i64 r.acc, .int .i64 r.made, .int .i64 r.about, .int .u8 r.kind, .int .i64 r.cents, .int .i64 r.of_] 56)).alloc (.cells #[.int .i64 0, .int .i64 0, .int .i64 0, .int .i64 0, .int .i64 0, .int .u8 0, .int .i64 0, .int .i64 0] 56)).alloc (.cells #[.int .i64 s.id, .int .i64 s.src, .int .i64 s.acc, .int .i64 s.made, .int .i64 s.about, .int .u8 s.kind, .int .i64 s.cents, .int .i64 s.of_] 56)) = V at *
    have c1 := k1.cell
    have c2 := k2.cell
    have f2 := k2.free
    have c3 := k3.cell
    go_region
    all_goals (go_wp2_with fail)
    all_goals have hrc := ((((((((k2.set 0 (.int .i64 s.id)).set 1 (.int .i64 s.src)).set 2 (.int .i64 s.acc)).set 3 (.int .i64 s.made)).set 4 (.int .i64 s.about)).set 5 (.int .u8 s.kind)).set 6 (.int .i64 s.cents)).set 7 (.int .i64 s.of_)).cell
    all_goals exact bodyPost_ret (v := .tuple #[.agg #[.int .i64 s.id, .int .i64 s.src, .int .i64 s.acc, .int .i64 s.made, .int .i64 s.about, .int .u8 s.kind, .int .i64 s.cents, .int .i64 s.of_], .bool false]) (by simp [results, Tryz.results101, go_sem, hrc]) rfl ⟨rfl, ((((((((b3.setCell (p := ⟨w.heap.size + 1 + 1, 0, none⟩) (by show w.heap.size ≤ w.heap.size + 1 + 1; omega) (.int .i64 s.id)).setCell (p := ⟨w.heap.size + 1 + 1, 1, none⟩) (by show w.heap.size ≤ w.heap.size + 1 + 1; omega) (.int .i64 s.src)).setCell (p := ⟨w.heap.size + 1 + 1, 2, none⟩) (by show w.heap.size ≤ w.heap.size + 1 + 1; omega) (.int .i64 s.acc)).setCell (p := ⟨w.heap.size + 1 + 1, 3, none⟩) (by show w.heap.size ≤ w.heap.size + 1 + 1; omega) (.int .i64 s.made)).setCell (p := ⟨w.heap.size + 1 + 1, 4, none⟩) (by show w.heap.size ≤ w.heap.size + 1 + 1; omega) (.int .i64 s.about)).setCell (p := ⟨w.heap.size + 1 + 1, 5, none⟩) (by show w.heap.size ≤ w.heap.size + 1 + 1; omega) (.int .u8 s.kind)).setCell (p := ⟨w.heap.size + 1 + 1, 6, none⟩) (by show w.heap.size ≤ w.heap.size + 1 + 1; omega) (.int .i64 s.cents)).setCell (p := ⟨w.heap.size + 1 + 1, 7, none⟩) (by show w.heap.size ≤ w.heap.size + 1 + 1; omega) (.int .i64 s.of_)).drew⟩

end Go.Proofs.YtkpaikampmeooaaGreatDoor

namespace Go.Proofs.YtkpaikampmeooaaGreatDoor
open Go.RowKit Go.Maps

open Classical in
noncomputable def delFn (G : Lit → Option Value) (kl : Lit) (x : Lit) : Option Value := if x = kl then none else G x
theorem MapFn.del {P : Program} {k : TypeId} {w : World} {b n : Nat} {G : Lit → Option Value} {t e : TypeId} (h : MapFn w P k b n G) (K : Keyed P k) (ht : P.underlying t = some (.map k e)) {key : Value} {kl : Lit} (hkey : keyOf P k key = some kl) (ty : TypeId) :
    ∃ w', (Builtin.delete_ #[t, k] ty #[.map (some b), key]).run P w = .ok (.tuple #[]) w' ∧ MapFn w' P k b n (delFn G kl) ∧ w.grownBy w' (some b) := by
  obtain ⟨D, h1, h2⟩ := h
  obtain ⟨w', hrun, h3, h4⟩ := h1.drop K ht hkey ty
  refine ⟨w', hrun, ⟨_, h3, fun x z => ?_⟩, h4.grown⟩
  unfold delFn
  by_cases hx : x = kl
  · subst hx; rw [if_pos rfl, atKey_del_same]; rfl
  · rw [if_neg hx, atKey_del_other hx]; exact h2 x z
theorem intG_del (f : Int → Option Value) (x : Int) : delFn (intG f) (.int .i64 x) = intG (fun y => if y = x then none else f y) := by
  funext k
  unfold delFn
  by_cases h : k = .int .i64 x
  · subst h; rw [if_pos rfl, intG_at, if_pos rfl]
  · rw [if_neg h]
    unfold intG
    split
    · rename_i y
      by_cases e : y = x
      · subst e; exact absurd rfl h
      · show f y = if y = x then none else f y
        rw [if_neg e]
    · rfl

/-- From block B on maps may turn, and new blocks come; cells stay. -/
structure Step (B : Nat) (w w' : World) : Prop where
  below : Below B w w'
  cel : ∀ (b : Nat) (cs : Array Value) (t : TypeId) (fr : Nat × Nat), w.heap[b]? = some (Obj.cells cs t fr) → w'.heap[b]? = some (Obj.cells cs t fr)
theorem Step.refl (B : Nat) (w : World) : Step B w w := ⟨Below.refl _ _, fun _ _ _ _ h => h⟩
theorem Step.trans {B : Nat} {a b c : World} (h : Step B a b) (k : Step B b c) : Step B a c := ⟨h.below.trans k.below, fun x cs t fr e => k.cel x cs t fr (h.cel x cs t fr e)⟩
theorem Step.size {B : Nat} {w w' : World} (h : Step B w w') : w.heap.size ≤ w'.heap.size := h.below.size
theorem Step.of {B : Nat} {w w' : World} (h : Below w.heap.size w w') (hB : B ≤ w.heap.size) : Step B w w' :=
  ⟨h.mono hB, fun b _ _ _ e => (h.block b (Array.getElem?_eq_some_iff.1 e).1).trans e⟩
theorem Step.mono {B B' : Nat} {w w' : World} (h : Step B w w') (hB : B' ≤ B) : Step B' w w' := ⟨h.below.mono hB, h.cel⟩
theorem Step.alloc {B : Nat} (w : World) (hB : B ≤ w.heap.size) (o : Obj) : Step B w (w.alloc o) := .of ((Below.refl _ _).alloc (Nat.le_refl _) o) hB
theorem Step.turn {B : Nat} {w w' : World} {m : Nat} {o : Obj} (hg : w.grownBy w' (some m)) (hm : w.heap[m]? = some o) (ho : o.isCells = false) (hB : B ≤ m) : Step B w w' := by
  have hlt : m < w.heap.size := (Array.getElem?_eq_some_iff.1 hm).1
  refine ⟨(Below.refl B w).grown hg (by omega) (fun k e => by cases e; exact hB), fun b cs t fr e => ?_⟩
  refine (hg.block b (Array.getElem?_eq_some_iff.1 e).1 (fun h => ?_)).trans e
  cases h
  rw [hm] at e
  cases e
  cases ho
theorem Blk.step {B : Nat} {w w' : World} {g : Nat} {cs : Array Value} {t : TypeId} (h : Blk w g cs t) (hs : Step B w w') : Blk w' g cs t := hs.cel g cs t _ h
theorem cell_step {B : Nat} {w w' : World} {p : Addr} {v : Value} (h : w.cell? p = some v) (hs : Step B w w') : w'.cell? p = some v := by
  have hb : ∃ cs t fr, w.heap[p.block]? = some (.cells cs t fr) := by
    unfold World.cell? at h
    cases ho : w.heap[p.block]? with
    | none => rw [ho] at h; cases h
    | some o =>
      rw [ho] at h
      cases o with
      | cells cs t fr => exact ⟨cs, t, fr, rfl⟩
      | _ => cases h
  obtain ⟨cs, t, fr, e⟩ := hb
  exact (World.cell?_of_block (w := w) ((hs.cel _ _ _ _ e).trans e.symm)).trans h
theorem Reps.step {B : Nat} {w w' : World} {A : Option Addr} {l : List Rep} (h : Reps w w.heap.size A l) (hs : Step B w w') : Reps w' w'.heap.size A l := fun k hk => by
  obtain ⟨b, off, e, h1, h2⟩ := h k hk
  refine ⟨b, off, e, Nat.lt_of_lt_of_le h1 hs.size, fun i hi => ?_⟩
  have h3 := h2 i hi
  have hlt : i < (#[.int .i64 l[k].id, .int .i64 l[k].src, .int .i64 l[k].acc, .int .i64 l[k].made, .int .i64 l[k].about, .int .u8 l[k].kind, .int .i64 l[k].cents, .int .i64 l[k].of_] : Array Value).size := hi
  rw [Array.getElem?_eq_getElem hlt] at h3 ⊢
  exact cell_step h3 hs
theorem NeedsAt.step {B : Nat} {w w' : World} (h : NeedsAt w) (hs : Step B w w') (hB : 0 < B) : NeedsAt w' := h.below hs.below hB

/-- Four maps from numbers. -/
structure KN (w : World) (m0 m1 m2 m3 n : Nat) (f0 f1 f2 f3 : Int → Option Value) : Prop where
  r0 : MapFn w Tryz.prog 3 m0 n (intG f0)
  r1 : MapFn w Tryz.prog 3 m1 n (intG f1)
  r2 : MapFn w Tryz.prog 3 m2 n (intG f2)
  r3 : MapFn w Tryz.prog 3 m3 n (intG f3)
/-- Four blocks, all different. -/
structure M4 (B m0 m1 m2 m3 : Nat) : Prop where
  l0 : B ≤ m0
  l1 : m0 < m1
  l2 : m1 < m2
  l3 : m2 < m3
theorem KN.more {w w' : World} {m0 m1 m2 m3 n : Nat} {f0 f1 f2 f3 : Int → Option Value} (h : KN w m0 m1 m2 m3 n f0 f1 f2 f3) (hg : w.grownBy w' none) : KN w' m0 m1 m2 m3 n f0 f1 f2 f3 :=
  ⟨h.r0.kept hg (by simp), h.r1.kept hg (by simp), h.r2.kept hg (by simp), h.r3.kept hg (by simp)⟩
theorem KN.later {w w' : World} {m0 m1 m2 m3 n : Nat} {f0 f1 f2 f3 : Int → Option Value} (h : KN w m0 m1 m2 m3 n f0 f1 f2 f3) (hg : Below w.heap.size w w') : KN w' m0 m1 m2 m3 n f0 f1 f2 f3 := h.more (grown_of_below hg)
theorem KN.alloc {w : World} {m0 m1 m2 m3 n : Nat} {f0 f1 f2 f3 : Int → Option Value} (h : KN w m0 m1 m2 m3 n f0 f1 f2 f3) (o : Obj) : KN (w.alloc o) m0 m1 m2 m3 n f0 f1 f2 f3 := ⟨h.r0.alloc o, h.r1.alloc o, h.r2.alloc o, h.r3.alloc o⟩
theorem KN.mono {w : World} {m0 m1 m2 m3 n n' : Nat} {f0 f1 f2 f3 : Int → Option Value} (h : KN w m0 m1 m2 m3 n f0 f1 f2 f3) (hn : n ≤ n') : KN w m0 m1 m2 m3 n' f0 f1 f2 f3 := ⟨h.r0.mono hn, h.r1.mono hn, h.r2.mono hn, h.r3.mono hn⟩
/-- An iterator turns. -/
theorem KN.turn {w w' : World} {m0 m1 m2 m3 n r : Nat} {f0 f1 f2 f3 : Int → Option Value} (h : KN w m0 m1 m2 m3 n f0 f1 f2 f3) (hg : w.grownBy w' (some r)) (hr : ∀ es c, w.heap[r]? ≠ some (.map es c)) : KN w' m0 m1 m2 m3 n f0 f1 f2 f3 := by
  have q : ∀ {m G}, MapFn w Tryz.prog 3 m n G → MapFn w' Tryz.prog 3 m n G := fun {m G} hm => hm.kept hg (fun e => by
    obtain ⟨es, c, hc⟩ := mapFn_heap hm
    rw [Option.some.inj e] at hc
    exact hr es c hc)
  exact ⟨q h.r0, q h.r1, q h.r2, q h.r3⟩
section
variable {w w' : World} {B m0 m1 m2 m3 n n' : Nat} {f0 f1 f2 f3 f : Int → Option Value}
theorem KN.put0 (h : KN w m0 m1 m2 m3 n f0 f1 f2 f3) (hm : M4 B m0 m1 m2 m3) (hg : w.grownBy w' (some m0)) (hn : n ≤ n') (hp : MapFn w' Tryz.prog 3 m0 n' (intG f)) : KN w' m0 m1 m2 m3 n' f f1 f2 f3 := by
  obtain ⟨_, _, _, _⟩ := hm
  exact ⟨hp, (h.r1.kept hg (fun e => by have := Option.some.inj e; omega)).mono hn, (h.r2.kept hg (fun e => by have := Option.some.inj e; omega)).mono hn, (h.r3.kept hg (fun e => by have := Option.some.inj e; omega)).mono hn⟩
theorem KN.put1 (h : KN w m0 m1 m2 m3 n f0 f1 f2 f3) (hm : M4 B m0 m1 m2 m3) (hg : w.grownBy w' (some m1)) (hn : n ≤ n') (hp : MapFn w' Tryz.prog 3 m1 n' (intG f)) : KN w' m0 m1 m2 m3 n' f0 f f2 f3 := by
  obtain ⟨_, _, _, _⟩ := hm
  exact ⟨(h.r0.kept hg (fun e => by have := Option.some.inj e; omega)).mono hn, hp, (h.r2.kept hg (fun e => by have := Option.some.inj e; omega)).mono hn, (h.r3.kept hg (fun e => by have := Option.some.inj e; omega)).mono hn⟩
theorem KN.put2 (h : KN w m0 m1 m2 m3 n f0 f1 f2 f3) (hm : M4 B m0 m1 m2 m3) (hg : w.grownBy w' (some m2)) (hn : n ≤ n') (hp : MapFn w' Tryz.prog 3 m2 n' (intG f)) : KN w' m0 m1 m2 m3 n' f0 f1 f f3 := by
  obtain ⟨_, _, _, _⟩ := hm
  exact ⟨(h.r0.kept hg (fun e => by have := Option.some.inj e; omega)).mono hn, (h.r1.kept hg (fun e => by have := Option.some.inj e; omega)).mono hn, hp, (h.r3.kept hg (fun e => by have := Option.some.inj e; omega)).mono hn⟩
theorem KN.put3 (h : KN w m0 m1 m2 m3 n f0 f1 f2 f3) (hm : M4 B m0 m1 m2 m3) (hg : w.grownBy w' (some m3)) (hn : n ≤ n') (hp : MapFn w' Tryz.prog 3 m3 n' (intG f)) : KN w' m0 m1 m2 m3 n' f0 f1 f2 f := by
  obtain ⟨_, _, _, _⟩ := hm
  exact ⟨(h.r0.kept hg (fun e => by have := Option.some.inj e; omega)).mono hn, (h.r1.kept hg (fun e => by have := Option.some.inj e; omega)).mono hn, (h.r2.kept hg (fun e => by have := Option.some.inj e; omega)).mono hn, hp⟩
end
theorem KN.step_put {w w' : World} {B m n : Nat} {G : Lit → Option Value} (h : MapFn w Tryz.prog 3 m n G) (hg : w.grownBy w' (some m)) (hB : B ≤ m) : Step B w w' := by
  obtain ⟨es, c, hc⟩ := mapFn_heap h
  exact Step.turn hg hc rfl hB
/-- What is known, as a value. -/
abbrev knowV (m0 m1 m2 m3 : Nat) : Value := .agg #[.map (some m0), .map (some m1), .map (some m2), .map (some m3)]

/-! What withdrawals leave in both maps that they write. -/
def wdM (K ws : List Rep) : Int → Option Value := fun id => if 0 ≤ wdP K ws id then some (.int .i64 (wdP K ws id)) else none
def wkM (K ws : List Rep) : Int → Option Value := fun id => if (ws.any fun w => decide (w.id = id) && worksW K w) = true then some (.bool true) else none
theorem wdM_nil (K : List Rep) : wdM K [] = fun _ => none := by funext id; unfold wdM; rw [wdP_nil, if_neg (by omega)]
theorem wkM_nil (K : List Rep) : wkM K [] = fun _ => none := by funext id; unfold wkM; rw [if_neg (by simp)]
theorem wdM_skip {K ws : List Rep} {w : Rep} (hk : w.kind = 9) (hw : worksW K w = false) : wdM K (ws ++ [w]) = wdM K ws := by
  funext id
  have e : wdP K (ws ++ [w]) id = wdP K ws id := by rw [wdP_step, if_neg (by rw [wdB_of K id w hk, hw]; simp)]
  unfold wdM
  rw [e]
theorem wkM_skip {K ws : List Rep} {w : Rep} (hw : worksW K w = false) : wkM K (ws ++ [w]) = wkM K ws := by
  funext id
  unfold wkM
  simp [List.any_append, hw]
theorem wkM_put {K ws : List Rep} {w : Rep} (hw : worksW K w = true) : (fun y => if y = w.id then some (Value.bool true) else wkM K ws y) = wkM K (ws ++ [w]) := by
  funext id
  unfold wkM
  by_cases h : id = w.id
  · subst h; rw [if_pos rfl, if_pos (by simp [List.any_append, hw])]
  · rw [if_neg h]
    have : ¬ w.id = id := fun e => h e.symm
    simp [List.any_append, this]
theorem wdM_put {K ws : List Rep} {w : Rep} (hk : w.kind = 9) (hw : worksW K w = true) (h0 : 0 ≤ w.id) (hl : wdP K ws w.of_ < 0 ∨ w.id < wdP K ws w.of_) : (fun y => if y = w.of_ then some (Value.int .i64 w.id) else wdM K ws y) = wdM K (ws ++ [w]) := by
  funext id
  unfold wdM
  by_cases h : id = w.of_
  · subst h
    have e : wdP K (ws ++ [w]) w.of_ = w.id := by
      rw [wdP_step, if_pos (by rw [wdB_of K _ w hk, hw]; simp)]
      unfold lessId
      rw [if_pos hl]
    rw [if_pos rfl, e, if_pos h0]
  · have e : wdP K (ws ++ [w]) id = wdP K ws id := by rw [wdP_step, if_neg (by rw [wdB_of K id w hk, hw]; simp; exact fun e => h e.symm)]
    rw [if_neg h, e]
theorem wdM_keep {K ws : List Rep} {w : Rep} (hk : w.kind = 9) (hw : worksW K w = true) (hl : ¬ (wdP K ws w.of_ < 0 ∨ w.id < wdP K ws w.of_)) : wdM K (ws ++ [w]) = wdM K ws := by
  funext id
  have e : wdP K (ws ++ [w]) id = wdP K ws id := by
    rw [wdP_step]
    by_cases h : wdB K id w = true
    · rw [if_pos h]
      rw [wdB_of K id w hk, hw] at h
      simp only [Bool.and_true, decide_eq_true_eq] at h
      subst h
      unfold lessId
      rw [if_neg hl]
    · rw [if_neg h]
  unfold wdM
  rw [e]

end Go.Proofs.YtkpaikampmeooaaGreatDoor

namespace Go.Proofs.YtkpaikampmeooaaGreatDoor
open Go.RowKit Go.Maps

def repF (K : List Rep) : Int → Option Value := fun id => (atR K id).map fun r => .agg #[.int .i64 r.id, .int .i64 r.src, .int .i64 r.acc, .int .i64 r.made, .int .i64 r.about, .int .u8 r.kind, .int .i64 r.cents, .int .i64 r.of_]
def noM : Int → Option Value := fun _ => none
/-- The least withdrawal that works of each number that has one. -/
def wdMV (K : List Rep) : Int → Option Value := fun id => if 0 ≤ wdV K id then some (.int .i64 (wdV K id)) else none
/-- The withdrawals that work. -/
def wkMV (K : List Rep) : Int → Option Value := fun id => if (K.any fun w => decide (w.id = id) && (decide (w.kind = 9) && worksW K w)) = true then some (.bool true) else none
def leftL (K : List Rep) : List Rep := K.filter fun r => decide (wdV K r.id < 0)
theorem wdM_end {K ws : List Rep} (h0 : ∀ r ∈ K, 0 ≤ r.id) (hp : ws.Perm (K.filter (kindK 9))) : wdM K ws = wdMV K := by
  funext id
  unfold wdM wdMV
  rw [wdP_end h0 (by rw [show (fun r : Rep => decide (r.kind = 9)) = kindK 9 from rfl]; exact hp)]
theorem wkM_end {K ws : List Rep} (hp : ws.Perm (K.filter (kindK 9))) : wkM K ws = wkMV K := by
  funext id
  unfold wkM wkMV
  have e : (ws.any fun w => decide (w.id = id) && worksW K w) = (K.any fun w => decide (w.id = id) && (decide (w.kind = 9) && worksW K w)) := by
    rw [Bool.eq_iff_iff, List.any_eq_true, List.any_eq_true]
    constructor
    · rintro ⟨r, hr, h⟩
      have h1 := List.mem_filter.1 (hp.mem_iff.1 hr)
      refine ⟨r, h1.1, ?_⟩
      have h2 : r.kind = 9 := by simpa [kindK] using h1.2
      simpa [h2] using h
    · rintro ⟨r, hr, h⟩
      simp only [Bool.and_eq_true, decide_eq_true_eq] at h
      exact ⟨r, hp.mem_iff.2 (List.mem_filter.2 ⟨hr, by simp [kindK, h.2.1]⟩), by simp [h.1, h.2.2]⟩
  rw [e]
/-- While those that are withdrawn are taken out. -/
def delM (K : List Rep) (left : Lit → Bool) : Int → Option Value := fun id => if left (.int .i64 id) = false ∧ 0 ≤ wdV K id then none else repF K id
theorem delM_start {K : List Rep} {D : DataW Value} (hat : ∀ kl z, D.atKey kl z = gotAt (intG (wdMV K) kl) z) : repF K = delM K (has D) := by
  funext id
  unfold delM
  rw [if_neg]
  rintro ⟨h1, h2⟩
  rw [has_some hat, intG_at] at h1
  unfold wdMV at h1
  rw [if_pos h2] at h1
  cases h1
theorem delM_step {K : List Rep} {left : Lit → Bool} {x : Int} (hx : 0 ≤ wdV K x) : (fun y => if y = x then none else delM K left y) = delM K (fun z => left z && !z.sameKey (.int .i64 x)) := by
  funext y
  unfold delM
  by_cases h : y = x
  · subst h
    rw [if_pos rfl, if_pos ⟨by show (left _ && !(Lit.int .i64 y).sameKey (.int .i64 y)) = false; rw [sameKey_int]; simp, hx⟩]
  · rw [if_neg h]
    have e : (Lit.int .i64 y).sameKey (.int .i64 x) = false := by rw [sameKey_int]; simp [h]
    show _ = if (left (.int .i64 y) && !(Lit.int .i64 y).sameKey (.int .i64 x)) = false ∧ 0 ≤ wdV K y then none else repF K y
    rw [e]
    simp
theorem delM_end {K : List Rep} (hn : (K.map Rep.id).Nodup) {left : Lit → Bool} (hl : ∀ kl, left kl = false) : delM K left = repF (leftL K) := by
  funext id
  unfold delM repF leftL
  have hnf : ((K.filter fun r => decide (wdV K r.id < 0)).map Rep.id).Nodup := hn.sublist (List.filter_sublist.map Rep.id)
  by_cases hw : 0 ≤ wdV K id
  · rw [if_pos ⟨hl _, hw⟩]
    have e : atR (K.filter fun r => decide (wdV K r.id < 0)) id = none := atR_none.2 fun r hr e => by
      have h1 := (List.mem_filter.1 hr).2
      simp only [decide_eq_true_eq] at h1
      rw [e] at h1
      omega
    rw [e]; rfl
  · rw [if_neg (fun e => hw e.2)]
    congr 1
    cases hr : atR K id with
    | none =>
      refine (atR_none.2 fun r hr2 => ?_).symm
      exact atR_none.1 hr r (List.mem_filter.1 hr2).1
    | some r =>
      obtain ⟨h1, rfl⟩ := atR_some hr
      exact (atR_mem hnf (List.mem_filter.2 ⟨h1, by simp; omega⟩)).symm
theorem ranges_it {H : Type} {w : World} {P : Program} {k : TypeId} {R : Value → Option (DataW H × List MemPlace)} {b r n : Nat} {D : DataW H} {left : Lit → Bool} {cnt : Nat} (h : w.ranges P k R b r n D left cnt) : ∃ o, w.heap[r]? = some o ∧ o.isCells = false ∧ ∀ es c, o ≠ .map es c := by
  obtain ⟨_, _, since, seen, c0, _, _, _, _, hr, _⟩ := h
  exact ⟨_, hr, rfl, fun _ _ e => by cases e⟩
/-- The numbers that reports name can be keys. -/
structure KnWf (K : List Rep) : Prop where
  id : ∀ r ∈ K, (Lit.int .i64 r.id).wf = true
  of_ : ∀ r ∈ K, (Lit.int .i64 r.of_).wf = true
theorem zeroBool (w : World) : (zeroValue 4).run Tryz.prog w = .ok (.bool false) w := by kernel_rfl
theorem zeroInt (w : World) : (zeroValue 3).run Tryz.prog w = .ok (.int .i64 0) w := by kernel_rfl
theorem worksW_none {K : List Rep} {r : Rep} (h : atR K r.of_ = none) : worksW K r = false := by unfold worksW aimsB; rw [h]; rfl
theorem worksW_some {K : List Rep} {r s : Rep} (h : atR K r.of_ = some s) : worksW K r = ((decide (s.src = r.src) && decide (s.acc = r.acc)) && !decide (s.kind = 9)) := by unfold worksW aimsB kindAt; rw [h]

set_option maxRecDepth 100000 in
set_option maxHeartbeats 8000000 in
theorem withdraw_any (B m0 m1 m2 m3 n : Nat) (K : List Rep) (w : World) (hm : M4 B m0 m1 m2 m3) (hKN : KN w m0 m1 m2 m3 n (repF K) noM noM noM) (hK : KnOk K) (hwf : KnWf K) (hB : B ≤ w.heap.size) (hn : n ≤ 1000) :
    Calls Tryz.prog 77 #[knowV m0 m1 m2 m3] w fun e w' => e = .returned (.tuple #[]) ∧ KN w' m0 m1 m2 m3 (n + 2000) (repF (leftL K)) (wdMV K) noM (wkMV K) ∧ Step B w w' := by
  have HM := Lib.hid hm
  have HK := Lib.hid hK
  have HWF := Lib.hid hwf
  have kb := Blk.new w #[.map (some m0), .map (some m1), .map (some m2), .map (some m3)] 109
  have hKN1 := hKN.alloc (.cells #[.map (some m0), .map (some m1), .map (some m2), .map (some m3)] 109)
  have st1 := Step.alloc w hB (.cells #[.map (some m0), .map (some m1), .map (some m2), .map (some m3)] 109)
  have HO := Lib.hid (ofKind_any m0 n K 9 _ (by rw [repG_eq]; exact hKN1.r0) hK.nodup hK.len)
  have hml : m0 < w.heap.size ∧ m1 < w.heap.size ∧ m2 < w.heap.size ∧ m3 < w.heap.size := ⟨hKN.r0.lt, hKN.r1.lt, hKN.r2.lt, hKN.r3.lt⟩
  obtain ⟨hm0l, hm1l, hm2l, hm3l⟩ := hml
  have kc0 := kb.cell
  have HKN1 := Lib.hid hKN1
  have Hst1 := Lib.hid st1
  have Hkb := Lib.hid kb
  clear hm hKN hK hwf kb hKN1 st1
  generalize hkbe : w.heap.size = b0 at *
  go_enter Tryz.func77, Tryz.ntmps77
  go_wp2_with (go_at_call 100; (with_reducible refine (HO.out).mono ?_); rintro e w2 ⟨A', c', ws, rfl, hp, hs, hR, h2⟩)
  have hl2 : ws.length ≤ 1000 := Nat.le_trans (Nat.le_of_eq hp.length_eq) (Nat.le_trans (List.length_filter_le _ _) HK.out.len)
  have HI0 : Hid (KN w2 m0 m1 m2 m3 (n + 2 * 0) (repF K) (wdM K (ws.take 0)) noM (wkM K (ws.take 0)) ∧ Blk w2 b0 #[.map (some m0), .map (some m1), .map (some m2), .map (some m3)] 109 ∧ Reps w2 w2.heap.size A' ws ∧ Step B w w2) := by
    rw [List.take_zero, wdM_nil, wkM_nil]
    exact Lib.hid ⟨HKN1.out.later h2, (Hkb.out).step (Step.of h2 (Nat.zero_le _)), hR, Hst1.out.trans (Step.of h2 (by have := Hst1.out.size; omega))⟩
  have Hp := Lib.hid hp
  have Hs := Lib.hid hs
  clear hp hs hR h2 kc0 HKN1 Hst1 Hkb HO
  go_loopw [13] (fun ii wr => ∃ i : Nat, i ≤ ws.length ∧ ii = .int .i64 i ∧ Hid (KN wr m0 m1 m2 m3 (n + 2 * i) (repF K) (wdM K (ws.take i)) noM (wkM K (ws.take i)) ∧ Blk wr b0 #[.map (some m0), .map (some m1), .map (some m2), .map (some m3)] 109 ∧ Reps wr wr.heap.size A' ws ∧ Step B w wr)) (fun ii _ => ws.length - (vInt ii).toNat)
  case atStart => exact ⟨0, Nat.zero_le _, rfl, HI0⟩
  case round =>
    obtain ⟨i, hi, rfl, hT⟩ := hrel
    clear HI0
    obtain ⟨hKN, hkb, hR, hSt⟩ := hT.out
    have kc := hkb.cell
    by_cases hlt : i < ws.length
    · have hil : (i : Int) < (ws.length : Int) := by omega
      obtain ⟨b, off, rfl, hb, C⟩ := hR.eight hlt
      have hmem := List.mem_filter.1 (Hp.out.mem_iff.1 (List.getElem_mem hlt))
      have HTk := Lib.hid (List.take_succ_eq_append_getElem hlt)
      generalize ws[i] = r at *
      obtain ⟨hrK, hr9⟩ := hmem
      have h9 : r.kind = 9 := by simpa [kindK] using hr9
      obtain ⟨c0, c1, c2, c3, c4, c5, c6, c7⟩ := C
      have k3 := Blk.new wr #[.int .i64 r.id, .int .i64 r.src, .int .i64 r.acc, .int .i64 r.made, .int .i64 r.about, .int .u8 r.kind, .int .i64 r.cents, .int .i64 r.of_] 56
      have hb1 := (Below.refl wr.heap.size wr).alloc (Nat.le_refl _) (.cells #[.int .i64 r.id, .int .i64 r.src, .int .i64 r.acc, .int .i64 r.made, .int .i64 r.about, .int .u8 r.kind, .int .i64 r.cents, .int .i64 r.of_] 56)
      have hKN1 := hKN.alloc (.cells #[.int .i64 r.id, .int .i64 r.src, .int .i64 r.acc, .int .i64 r.made, .int .i64 r.about, .int .u8 r.kind, .int .i64 r.cents, .int .i64 r.of_] 56)
      have hkb1 := hkb.alloc (.cells #[.int .i64 r.id, .int .i64 r.src, .int .i64 r.acc, .int .i64 r.made, .int .i64 r.about, .int .u8 r.kind, .int .i64 r.cents, .int .i64 r.of_] 56)
      have hM0 : MapFn (wr.alloc (.cells #[.int .i64 r.id, .int .i64 r.src, .int .i64 r.acc, .int .i64 r.made, .int .i64 r.about, .int .u8 r.kind, .int .i64 r.cents, .int .i64 r.of_] 56)) Tryz.prog 3 m0 (n + 2 * i) (repG K) := by rw [repG_eq]; exact hKN1.r0
      have hwo := HWF.out.of_ r hrK
      have hwi := HWF.out.id r hrK
      have hSB : B ≤ wr.heap.size := by have := hSt.size; omega
      have hkblt : b0 < wr.heap.size := hkb.lt
      cases ha : atR K r.of_ with
      | none =>
        have HC := Lib.hid (named_none m0 _ K r _ hM0 hwo ha)
        have hw := worksW_none ha
        have Hwd : Hid (wdM K (ws.take (i + 1)) = wdM K (ws.take i)) := Lib.hid (by rw [HTk.out, wdM_skip h9 hw])
        have Hwk : Hid (wkM K (ws.take (i + 1)) = wkM K (ws.take i)) := Lib.hid (by rw [HTk.out, wkM_skip hw])
        have HKN2 := Lib.hid hKN1
        have Hkb2 := Lib.hid hkb1
        have HR2 := Lib.hid hR
        have Hst := Lib.hid (hSt.trans (Step.of hb1 hSB))
        clear hw h9 hT hKN hKN1 hkb hkb1 hR hSt hM0 hr9
        go_wp2_with (go_at_call 101; (with_reducible refine (HC.out).mono ?_); rintro e w3 ⟨rfl, h3⟩; have kb3 := (Hkb2.out.below h3 Hkb2.out.lt).cell)
        have h4 := h3.alloc h3.size (.cells #[.int .i64 0, .int .i64 0, .int .i64 0, .int .i64 0, .int .i64 0, .int .u8 0, .int .i64 0, .int .i64 0] 56)
        have s4 := Step.of h4 (Nat.le_trans hSB hb1.size)
        go_roundw
        case rel => exact ⟨i + 1, by omega, by go_num, Lib.hid ⟨by rw [Hwd.out, Hwk.out]; exact (HKN2.out.later h4).mono (by omega), Hkb2.out.step s4, HR2.out.step ((Step.of hb1 hSB).trans s4), Hst.out.trans s4⟩⟩
        case measure => simp [vInt]; omega
      | some s =>
        have HC := Lib.hid (named_some m0 _ K r s _ hM0 hwo ha)
        have hws := worksW_some ha
        cases hd : (decide (s.src = r.src) && decide (s.acc = r.acc)) with
        | false =>
          rw [hd] at HC
          have hw : worksW K r = false := by rw [hws, hd]; rfl
          clear hws
          have Hwd : Hid (wdM K (ws.take (i + 1)) = wdM K (ws.take i)) := Lib.hid (by rw [HTk.out, wdM_skip h9 hw])
          have Hwk : Hid (wkM K (ws.take (i + 1)) = wkM K (ws.take i)) := Lib.hid (by rw [HTk.out, wkM_skip hw])
          have HKN2 := Lib.hid hKN1
          have Hkb2 := Lib.hid hkb1
          have HR2 := Lib.hid hR
          have Hst := Lib.hid (hSt.trans (Step.of hb1 hSB))
          clear hw h9 hT hKN hKN1 hkb hkb1 hR hSt hM0 hr9
          go_wp2_with (go_at_call 101; (with_reducible refine (HC.out).mono ?_); rintro e w3 ⟨rfl, h3⟩; have kb3 := (Hkb2.out.below h3 Hkb2.out.lt).cell)
          have h4 := h3.alloc h3.size (.cells #[.int .i64 s.id, .int .i64 s.src, .int .i64 s.acc, .int .i64 s.made, .int .i64 s.about, .int .u8 s.kind, .int .i64 s.cents, .int .i64 s.of_] 56)
          have s4 := Step.of h4 (Nat.le_trans hSB hb1.size)
          go_roundw
          case rel => exact ⟨i + 1, by omega, by go_num, Lib.hid ⟨by rw [Hwd.out, Hwk.out]; exact (HKN2.out.later h4).mono (by omega), Hkb2.out.step s4, HR2.out.step ((Step.of hb1 hSB).trans s4), Hst.out.trans s4⟩⟩
          case measure => simp [vInt]; omega
        | true =>
          rw [hd] at HC
          by_cases hs9 : s.kind = 9
          · have hw : worksW K r = false := by rw [hws, hd]; simp [hs9]
            have es9 : (s.kind == 9) = true := by simp [hs9]
            clear hws hs9
            have Hwd : Hid (wdM K (ws.take (i + 1)) = wdM K (ws.take i)) := Lib.hid (by rw [HTk.out, wdM_skip h9 hw])
            have Hwk : Hid (wkM K (ws.take (i + 1)) = wkM K (ws.take i)) := Lib.hid (by rw [HTk.out, wkM_skip hw])
            have HKN2 := Lib.hid hKN1
            have Hkb2 := Lib.hid hkb1
            have HR2 := Lib.hid hR
            have Hst := Lib.hid (hSt.trans (Step.of hb1 hSB))
            clear hw h9 hT hKN hKN1 hkb hkb1 hR hSt hM0 hr9
            go_wp2_with (go_at_call 101; (with_reducible refine (HC.out).mono ?_); rintro e w3 ⟨rfl, h3⟩; have kb3 := (Hkb2.out.below h3 Hkb2.out.lt).cell)
            have h4 := h3.alloc h3.size (.cells #[.int .i64 s.id, .int .i64 s.src, .int .i64 s.acc, .int .i64 s.made, .int .i64 s.about, .int .u8 s.kind, .int .i64 s.cents, .int .i64 s.of_] 56)
            have s4 := Step.of h4 (Nat.le_trans hSB hb1.size)
            go_roundw
            case rel => exact ⟨i + 1, by omega, by go_num, Lib.hid ⟨by rw [Hwd.out, Hwk.out]; exact (HKN2.out.later h4).mono (by omega), Hkb2.out.step s4, HR2.out.step ((Step.of hb1 hSB).trans s4), Hst.out.trans s4⟩⟩
            case measure => simp [vInt]; omega
          · have hw : worksW K r = true := by rw [hws, hd]; simp [hs9]
            have es9 : (s.kind == 9) = false := by simpa using hs9
            obtain ⟨hsK, hsid⟩ := atR_some ha
            have hr0 := (HK.out.id r hrK).1
            have Hw := Lib.hid hw
            have Hsid := Lib.hid hsid
            have H9 := Lib.hid h9
            have Hst := Lib.hid (hSt.trans (Step.of hb1 hSB))
            have HKN1 := Lib.hid hKN1
            have Hkb1 := Lib.hid hkb1
            have HR := Lib.hid hR
            have Hk3 := Lib.hid k3
            clear hws hs9 hd ha hw hT hKN hKN1 hkb hkb1 hR hSt hM0 hr9 h9 hsid k3
            go_upto_region 6 with (go_at_call 101; (with_reducible refine (HC.out).mono ?_); rintro e w3 ⟨rfl, h3⟩; have kb3 := (Hkb1.out.below h3 Hkb1.out.lt).cell)
            have hV := h3.alloc h3.size (.cells #[.int .i64 s.id, .int .i64 s.src, .int .i64 s.acc, .int .i64 s.made, .int .i64 s.about, .int .u8 s.kind, .int .i64 s.cents, .int .i64 s.of_] 56)
            have sV := Step.of hV (Nat.le_trans hSB hb1.size)
            have hKV := HKN1.out.later hV
            have bkb := Hkb1.out.step sV
            have bk3 := Hk3.out.step sV
            have bk4 := Blk.new w3 #[.int .i64 s.id, .int .i64 s.src, .int .i64 s.acc, .int .i64 s.made, .int .i64 s.about, .int .u8 s.kind, .int .i64 s.cents, .int .i64 s.of_] 56
            have HRV := Lib.hid (HR.out.step ((Step.of hb1 hSB).trans sV))
            have HstV := Lib.hid (Hst.out.trans sV)
            have h34 : wr.heap.size < w3.heap.size := by have := h3.size; simp at this; omega
            have hb03 : b0 < w3.heap.size := by omega
            clear h3 hV sV HKN1 Hkb1 Hk3 HR Hst HC kc kb3 c0 c1 c2 c3 c4 c5 c6 c7 hb hb1
            generalize hV4 : w3.heap.size = b4 at *
            generalize w3.alloc (.cells #[.int .i64 s.id, .int .i64 s.src, .int .i64 s.acc, .int .i64 s.made, .int .i64 s.about, .int .u8 s.kind, .int .i64 s.cents, .int .i64 s.of_] 56) = V at *
            clear hV4 w3
            generalize hV3 : wr.heap.size = b3 at *
            clear hV3 wr
            obtain ⟨V1, hrun3, hput3, hg3⟩ := hKV.r3.put (int_keyed Tryz.underlying3) Tryz.underlying66 (by unfold maxLen; omega) (keyOf_int_mk Tryz.underlying3 hwi) (val := .bool true)
            rw [intG_put, wkM_put Hw.out, ← HTk.out] at hput3
            have hK1 := hKV.put3 HM.out hg3 (by omega) hput3
            have s1 := KN.step_put (B := B) hKV.r3 hg3 (by have := HM.out; obtain ⟨_, _, _, _⟩ := this; omega)
            have look := hK1.r1.lookOk (int_keyed Tryz.underlying3) Tryz.underlying107 (zeroInt V1) (keyOf_int_mk Tryz.underlying3 (show (Lit.int .i64 s.id).wf = true by rw [Hsid.out]; exact hwo))
            rw [intG_at] at look
            have k0c := bkb.cell
            have k3c := bk3.cell
            have k4c := bk4.cell
            have k0d := (bkb.step s1).cell
            have k3d := (bk3.step s1).cell
            have k4d := (bk4.step s1).cell
            have hlk : wdM K (ws.take i) s.id = if 0 ≤ wdP K (ws.take i) r.of_ then some (.int .i64 (wdP K (ws.take i) r.of_)) else none := by rw [Hsid.out]; rfl
            rw [hlk] at look
            have HP1 := Lib.hid hput3
            have HK1 := Lib.hid hK1
            have Hs1 := Lib.hid s1
            have Hb := Lib.hid (And.intro bkb (And.intro bk3 bk4))
            clear hKV hput3 hg3 hlk bkb bk3 bk4
            by_cases hq : 0 ≤ wdP K (ws.take i) r.of_
            · rw [if_pos hq] at look
              simp only [Option.getD_some, Option.isSome_some] at look
              by_cases hlt2 : r.id < wdP K (ws.take i) r.of_
              · obtain ⟨V2, hrun1, hput1, hg1⟩ := hK1.r1.put (int_keyed Tryz.underlying3) Tryz.underlying107 (by unfold maxLen; omega) (keyOf_int_mk Tryz.underlying3 (show (Lit.int .i64 s.id).wf = true by rw [Hsid.out]; exact hwo)) (val := .int .i64 r.id)
                rw [intG_put, Hsid.out, wdM_put H9.out Hw.out hr0 (.inr hlt2), ← HTk.out] at hput1
                have HK2 := Lib.hid (hK1.put1 HM.out hg1 (by omega) hput1)
                have Hs2 := Lib.hid (Hs1.out.trans (KN.step_put (B := B) hK1.r1 hg1 (by have := HM.out; obtain ⟨_, _, _, _⟩ := this; omega)))
                generalize wdP K (ws.take i) r.of_ = z at *
                clear hK1 s1 hput1 hg1 hq
                go_wp2_with fail
                go_roundw
                case rel => exact ⟨i + 1, by omega, by go_num, Lib.hid ⟨HK2.out.mono (by omega), Hb.out.1.step Hs2.out, HRV.out.step Hs2.out, HstV.out.trans Hs2.out⟩⟩
                case measure => simp [vInt]; omega
              · have Hkeep := Lib.hid (wdM_keep H9.out Hw.out (ws := ws.take i) (by omega))
                rw [← HTk.out] at Hkeep
                generalize wdP K (ws.take i) r.of_ = z at *
                clear hK1 s1 hq
                go_wp2_with fail
                go_roundw
                case rel => exact ⟨i + 1, by omega, by go_num, Lib.hid ⟨by rw [Hkeep.out]; exact HK1.out.mono (by omega), Hb.out.1.step Hs1.out, HRV.out.step Hs1.out, HstV.out.trans Hs1.out⟩⟩
                case measure => simp [vInt]; omega
            · rw [if_neg hq] at look
              simp only [Option.getD_none, Option.isSome_none] at look
              obtain ⟨V2, hrun1, hput1, hg1⟩ := hK1.r1.put (int_keyed Tryz.underlying3) Tryz.underlying107 (by unfold maxLen; omega) (keyOf_int_mk Tryz.underlying3 (show (Lit.int .i64 s.id).wf = true by rw [Hsid.out]; exact hwo)) (val := .int .i64 r.id)
              rw [intG_put, Hsid.out, wdM_put H9.out Hw.out hr0 (.inl (by omega)), ← HTk.out] at hput1
              have HK2 := Lib.hid (hK1.put1 HM.out hg1 (by omega) hput1)
              have Hs2 := Lib.hid (Hs1.out.trans (KN.step_put (B := B) hK1.r1 hg1 (by have := HM.out; obtain ⟨_, _, _, _⟩ := this; omega)))
              clear hK1 s1 hput1 hg1 hq
              go_wp2_with fail
              go_roundw
              case rel => exact ⟨i + 1, by omega, by go_num, Lib.hid ⟨HK2.out.mono (by omega), Hb.out.1.step Hs2.out, HRV.out.step Hs2.out, HstV.out.trans Hs2.out⟩⟩
              case measure => simp [vInt]; omega
    · have hil : ¬ (i : Int) < (ws.length : Int) := by omega
      have hall : ws.take i = ws := List.take_of_length_le (by omega)
      rw [hall, wdM_end (fun r hr => (HK.out.id r hr).1) Hp.out, wkM_end Hp.out] at hKN
      obtain ⟨D, hownD, hatD⟩ := hKN.r1
      have HatD := Lib.hid hatD
      have HKN := Lib.hid hKN
      have Hkb := Lib.hid hkb
      have HSt := Lib.hid hSt
      have hbl := hkb.lt
      obtain ⟨wo, rfl⟩ : ∃ wo : World, wo = wr := ⟨_, rfl⟩
      clear hT hR hSt hKN hatD hkb hall
      go_wp2_with (at_range; refine wpList_range_own _ rfl _ 107 rfl 3 3 (int_keyed Tryz.underlying3) Tryz.underlying107 rawElem m1 (n + 2 * i) D rfl hownD ?_; intro w0 hrg0 hg0 hs0)
      have HI1 : Hid (w0.ranges Tryz.prog 3 rawElem m1 wo.heap.size (n + 2 * i) D (has D) _ ∧ KN w0 m0 m1 m2 m3 (n + 2 * i) (delM K (has D)) (wdMV K) noM (wkMV K) ∧ Blk w0 b0 #[.map (some m0), .map (some m1), .map (some m2), .map (some m3)] 109 ∧ Step B w w0) := Lib.hid ⟨hrg0, by rw [← delM_start HatD.out]; exact HKN.out.more hg0, Hkb.out.grown hg0 (by simp), HSt.out.trans (Step.of ⟨hg0.os, hg0.tape, hg0.output, hg0.size, fun k hk => hg0.block k hk (by simp)⟩ (by have := HSt.out.size; omega))⟩
      clear hrg0 hg0 hownD kc
      have Hitl : m0 < wo.heap.size ∧ b0 < wo.heap.size := ⟨by omega, by omega⟩
      go_loopw [8] (fun _ wi => ∃ left cnt, Hid (wi.ranges Tryz.prog 3 rawElem m1 wo.heap.size (n + 2 * i) D left cnt ∧ KN wi m0 m1 m2 m3 (n + 2 * i) (delM K left) (wdMV K) noM (wkMV K) ∧ Blk wi b0 #[.map (some m0), .map (some m1), .map (some m2), .map (some m3)] 109 ∧ Step B w wi)) (fun _ wi => wi.rangeLeft m1 wo.heap.size)
      case atStart => exact ⟨_, _, HI1⟩
      case round =>
        obtain ⟨left, cnt, hR⟩ := hrel
        clear HI1
        obtain ⟨hrg, hKi, hki, hSi⟩ := hR.out
        clear hR
        have Hrg := Lib.hid hrg
        go_wp2_with (at_next; go_loud (refine wpList_next_ranges _ rfl _ rfl 3 (int_keyed Tryz.underlying3) rawElem (Value.int .i64) (fun u : Value => u) intKeyShape rawShape m1 wo.heap.size (n + 2 * i) D left cnt rfl Hrg.out ?_ ?_))
        · intro _ hl0
          have HE := Lib.hid (delM_end HK.out.nodup hl0)
          have HKi := Lib.hid hKi
          have HSi := Lib.hid hSi
          clear hl0 hrg hKi hki hSi
          go_wp2_with fail
          go_end0
          exact ⟨rfl, by rw [← HE.out]; exact HKi.out.mono (by omega), HSi.out⟩
        · intro k1 v kl ya yb w1 cnt1 hkey hlk hv hat1 hrg1 hlt2 hg1 hs1 hen
          obtain ⟨p, ep, rfl, hwp⟩ := Maps.keyOf_int_inv Tryz.underlying3 hkey
          injection ep with _ ep
          subst ep
          have hv' := Option.some.inj hv
          injection hv' with hv1 hv2
          subst hv1
          clear hv hv2
          have hwd : 0 ≤ wdV K k1 := by
            have hq := got_some HatD.out hat1
            rw [intG_at] at hq
            unfold wdMV at hq
            by_cases h : 0 ≤ wdV K k1
            · exact h
            · rw [if_neg h] at hq; cases hq
          obtain ⟨ob, hob, hoc, how⟩ := ranges_it hrg
          have hK1 := hKi.turn hg1 (fun es c e => how es c (Option.some.inj (hob.symm.trans e)))
          have hk1 := hki.step (Step.turn (B := 0) hg1 hob hoc (Nat.zero_le _))
          have hS1 := hSi.trans (Step.turn hg1 hob hoc (by omega))
          obtain ⟨w2, hrun2, hdel2, hg2⟩ := hK1.r0.del (int_keyed Tryz.underlying3) Tryz.underlying104 (keyOf_int_mk Tryz.underlying3 hwp) 0
          rw [intG_del, delM_step hwd] at hdel2
          have hM := HM.out
          obtain ⟨_, _, _, _⟩ := hM
          have hK2 := hK1.put0 HM.out hg2 (Nat.le_refl _) hdel2
          have hS2 := hS1.trans (KN.step_put (B := B) hK1.r0 hg2 (by omega))
          have hk2 := hk1.step (KN.step_put (B := 0) hK1.r0 hg2 (Nat.zero_le _))
          have hrg2 := hrg1.kept hg2 (fun e => by have := Option.some.inj e; omega) (fun e => by have := Option.some.inj e; omega)
          have kc1 := hk1.cell
          have hrun2' : ∀ ty, (Builtin.delete_ #[104, 3] ty #[.map (some m0), .int .i64 k1]).run Tryz.prog w1 = .ok (.tuple #[]) w2 := fun ty => hrun2
          have HF := Lib.hid (And.intro hrg2 (And.intro hK2 (And.intro hk2 hS2)))
          have Hlt2 := Lib.hid hlt2
          clear hrg1 hg1 hob hoc hKi hki hSi hK1 hk1 hS1 hdel2 hg2 hK2 hS2 hk2 hrg2 hat1 hlk hrg hwd hrun2 hs1 hlt2 how
          go_wp2_with fail
          go_roundw
          case rel => exact ⟨_, _, HF⟩
          case measure => rw [HF.out.1.left_eq, Hrg.out.left_eq]; exact Hlt2.out

end Go.Proofs.YtkpaikampmeooaaGreatDoor

namespace Go.Proofs.YtkpaikampmeooaaGreatDoor
open Go.RowKit Go.Maps

/-- The corrections that the program keeps after some. -/
def coM (K cs : List Rep) : Int → Option Value := fun id => match atR (leftL K) id with
  | none => none
  | some r => if r.kind ≤ 7 then (corP K cs id).map fun c => .agg #[.int .i64 c.id, .int .i64 c.src, .int .i64 c.acc, .int .i64 c.made, .int .i64 c.about, .int .u8 c.kind, .int .i64 c.cents, .int .i64 c.of_] else none
def coMV (K : List Rep) : Int → Option Value := fun id => (corK K id).map fun c => .agg #[.int .i64 c.id, .int .i64 c.src, .int .i64 c.acc, .int .i64 c.made, .int .i64 c.about, .int .u8 c.kind, .int .i64 c.cents, .int .i64 c.of_]
theorem coM_nil (K : List Rep) : coM K [] = noM := by
  funext id
  unfold coM noM
  split
  · rfl
  · rw [corP_nil]; simp
theorem atR_left {K : List Rep} (hn : (K.map Rep.id).Nodup) {id : Int} {r : Rep} (h : atR (leftL K) id = some r) : atR K id = some r ∧ wdV K id < 0 := by
  obtain ⟨h1, rfl⟩ := atR_some h
  obtain ⟨h2, h3⟩ := List.mem_filter.1 h1
  exact ⟨atR_mem hn h2, by simpa using h3⟩
theorem leftL_nodup {K : List Rep} (hn : (K.map Rep.id).Nodup) : ((leftL K).map Rep.id).Nodup := hn.sublist (List.filter_sublist.map Rep.id)
theorem left_atR {K : List Rep} (hn : (K.map Rep.id).Nodup) {id : Int} {r : Rep} (h : atR K id = some r) (hw : wdV K id < 0) : atR (leftL K) id = some r := by
  obtain ⟨h1, rfl⟩ := atR_some h
  exact atR_mem (leftL_nodup hn) (List.mem_filter.2 ⟨h1, by simpa using hw⟩)
theorem corB_other {K : List Rep} {id : Int} {c : Rep} (h : c.of_ ≠ id) : corB K id c = false := by unfold corB; simp [h]
/-- Whether a correction works so far. -/
theorem coM_skip {K cs : List Rep} {c : Rep} (h : ∀ r, atR (leftL K) c.of_ = some r → r.kind ≤ 7 → corB K c.of_ c = false) : coM K (cs ++ [c]) = coM K cs := by
  funext id
  unfold coM
  cases hr : atR (leftL K) id with
  | none => rfl
  | some r =>
    dsimp only
    by_cases hk : r.kind ≤ 7
    · rw [if_pos hk, if_pos hk, corP_step]
      by_cases e : c.of_ = id
      · subst e
        rw [h r hr hk]
        rfl
      · rw [corB_other e]; rfl
    · rw [if_neg hk, if_neg hk]
theorem coM_put {K cs : List Rep} {c r : Rep} (hr : atR (leftL K) c.of_ = some r) (hk : r.kind ≤ 7) (hb : corB K c.of_ c = true) : (fun y => if y = c.of_ then some (Value.agg #[.int .i64 c.id, .int .i64 c.src, .int .i64 c.acc, .int .i64 c.made, .int .i64 c.about, .int .u8 c.kind, .int .i64 c.cents, .int .i64 c.of_]) else coM K cs y) = coM K (cs ++ [c]) := by
  funext id
  by_cases e : id = c.of_
  · subst e
    rw [if_pos rfl]
    unfold coM
    rw [hr]
    dsimp only
    rw [if_pos hk, corP_step, if_pos hb]
    rfl
  · rw [if_neg e]
    unfold coM
    cases hr2 : atR (leftL K) id with
    | none => rfl
    | some s =>
      dsimp only
      rw [corP_step, corB_other (fun h => e h.symm)]
      rfl
theorem corB_of {K : List Rep} {c r : Rep} (hn : (K.map Rep.id).Nodup) (h8 : c.kind = 8) (hw : wdV K c.id < 0) (hr : atR (leftL K) c.of_ = some r) : corB K c.of_ c = ((decide (r.src = c.src) && decide (r.acc = c.acc)) && centsB r.kind c.cents) := by
  have h1 := (atR_left hn hr).1
  unfold corB aimsB kindAt
  rw [h1]
  simp [h8, hw]
theorem coM_end {K cs : List Rep} (hK : KnOk K) (hp : cs.Perm ((leftL K).filter (kindK 8))) (hs : cs.Pairwise leM) : coM K cs = coMV K := by
  have hp2 : cs.Perm (leftK K 8) := by
    have e : (leftL K).filter (kindK 8) = leftK K 8 := by
      unfold leftL leftK
      rw [List.filter_filter]
      refine List.filter_congr fun r _ => ?_
      simp [kindK]
    rw [← e]; exact hp
  have hnd : (cs.map Rep.id).Nodup := (hp.map Rep.id).nodup_iff.2 (((leftL_nodup hK.nodup)).sublist (List.filter_sublist.map Rep.id))
  have hs2 : cs.Pairwise fun a b => laterB b a = true := by
    have q : cs.Pairwise fun a b => a.id ≠ b.id := List.pairwise_map.1 hnd
    refine (hs.and q).imp fun {a b} h => ?_
    obtain ⟨h1, h2⟩ := h
    rw [laterB_iff]
    rcases h1 with h1 | ⟨h1, h3⟩
    · exact .inl h1
    · exact .inr ⟨h1.symm, by omega⟩
  funext id
  unfold coM coMV corK
  by_cases hw : wdV K id < 0
  · cases hr : atR K id with
    | none =>
      have : atR (leftL K) id = none := by
        cases h : atR (leftL K) id with
        | none => rfl
        | some s => rw [(atR_left hK.nodup h).1] at hr; cases hr
      rw [this]; rfl
    | some r =>
      rw [left_atR hK.nodup hr hw]
      dsimp only
      have hid : r.id = id := (atR_some hr).2
      by_cases hk : r.kind ≤ 7
      · rw [if_pos hk, if_pos (by unfold factB; rw [hid]; simp [hk, hw]), corP_end hK.nodup hp2 hs2]
      · rw [if_neg hk, if_neg (by unfold factB; simp [hk])]; rfl
  · have h1 : atR (leftL K) id = none := by
      cases h : atR (leftL K) id with
      | none => rfl
      | some s => exact absurd (atR_left hK.nodup h).2 hw
    rw [h1]
    cases hr : atR K id with
    | none => rfl
    | some r =>
      dsimp only
      have hid : r.id = id := (atR_some hr).2
      rw [if_neg (by unfold factB; rw [hid]; simp; intro _; omega)]; rfl
theorem coMV_some {K : List Rep} {x : Int} {v : Value} (h : coMV K x = some v) : ∃ c, corK K x = some c ∧ v = .agg #[.int .i64 c.id, .int .i64 c.src, .int .i64 c.acc, .int .i64 c.made, .int .i64 c.about, .int .u8 c.kind, .int .i64 c.cents, .int .i64 c.of_] := by
  unfold coMV at h
  cases hc : corK K x with
  | none => rw [hc] at h; cases h
  | some c => rw [hc] at h; exact ⟨c, rfl, (Option.some.inj h).symm⟩
theorem KnOk.left {K : List Rep} (h : KnOk K) : KnOk (leftL K) := ⟨Nat.le_trans (List.length_filter_le _ _) h.len, leftL_nodup h.nodup, fun r hr => h.id r (List.mem_filter.1 hr).1, fun r hr => h.kind r (List.mem_filter.1 hr).1⟩
/-- Whether one works, while corrections that work are noted. -/
def notedP (K : List Rep) (left : Lit → Bool) (id : Int) : Prop := (wkMV K id).isSome = true ∨ ∃ k, left (.int .i64 k) = false ∧ (corK K k).map Rep.id = some id
open Classical in
noncomputable def wkC (K : List Rep) (left : Lit → Bool) : Int → Option Value := fun id => if notedP K left id then some (.bool true) else none
theorem wkMV_val {K : List Rep} {id : Int} (h : (wkMV K id).isSome = true) : wkMV K id = some (.bool true) := by
  unfold wkMV at h ⊢
  split
  · rfl
  · rename_i hn; rw [if_neg hn] at h; cases h
theorem wkC_start {K : List Rep} {D : DataW Value} (hat : ∀ kl z, D.atKey kl z = gotAt (intG (coMV K) kl) z) : wkMV K = wkC K (has D) := by
  funext id
  unfold wkC
  by_cases h : notedP K (has D) id
  · rw [if_pos h]
    rcases h with h | ⟨k, h1, h2⟩
    · exact wkMV_val h
    · rw [has_some hat, intG_at] at h1
      unfold coMV at h1
      cases hc : corK K k with
      | none => rw [hc] at h2; cases h2
      | some c => rw [hc] at h1; cases h1
  · rw [if_neg h]
    cases hw : wkMV K id with
    | none => rfl
    | some v => exact absurd (.inl (by rw [hw]; rfl)) h
theorem wkC_step {K : List Rep} {left : Lit → Bool} {x : Int} {c : Rep} (hx : corK K x = some c) : (fun y => if y = c.id then some (Value.bool true) else wkC K left y) = wkC K (fun z => left z && !z.sameKey (.int .i64 x)) := by
  funext id
  have hs : ∀ k, ((left (.int .i64 k) && !(Lit.int .i64 k).sameKey (.int .i64 x)) = false ↔ left (.int .i64 k) = false ∨ k = x) := fun k => by
    rw [sameKey_int]
    by_cases e : k = x <;> simp [e]
  by_cases e : id = c.id
  · subst e
    rw [if_pos rfl]
    unfold wkC
    rw [if_pos (.inr ⟨x, (hs x).2 (.inr rfl), by rw [hx]; rfl⟩)]
  · rw [if_neg e]
    unfold wkC
    have hiff : notedP K left id ↔ notedP K (fun z => left z && !z.sameKey (.int .i64 x)) id := by
      unfold notedP
      constructor
      · rintro (h | ⟨k, h1, h2⟩)
        · exact .inl h
        · exact .inr ⟨k, (hs k).2 (.inl h1), h2⟩
      · rintro (h | ⟨k, h1, h2⟩)
        · exact .inl h
        · rcases (hs k).1 h1 with h1 | rfl
          · exact .inr ⟨k, h1, h2⟩
          · rw [hx] at h2
            exact absurd (by simpa using h2 : c.id = id).symm e
    by_cases h : notedP K left id
    · rw [if_pos h, if_pos (hiff.1 h)]
    · rw [if_neg h, if_neg (fun h2 => h (hiff.2 h2))]
/-- All that work. -/
def wkA (K : List Rep) : Int → Option Value := fun id => if worksB K id = true then some (.bool true) else none
theorem wkC_end {K : List Rep} {left : Lit → Bool} (hl : ∀ kl, left kl = false) : wkC K left = wkA K := by
  funext id
  unfold wkC wkA
  have hiff : notedP K left id ↔ worksB K id = true := by
    unfold notedP worksB wkMV
    constructor
    · rintro (h | ⟨k, _, h⟩)
      · by_cases hq : (K.any fun w => decide (w.id = id) && (decide (w.kind = 9) && worksW K w)) = true
        · obtain ⟨r, hr, h2⟩ := List.any_eq_true.1 hq
          simp only [Bool.and_eq_true, decide_eq_true_eq] at h2
          exact List.any_eq_true.2 ⟨r, hr, by simp [h2.1, h2.2.1, h2.2.2]⟩
        · rw [if_neg hq] at h; cases h
      · cases hc : corK K k with
        | none => rw [hc] at h; cases h
        | some c =>
          rw [hc] at h
          have hid : c.id = id := by simpa using h
          obtain ⟨r, h3, hf, hv⟩ := corK_some hc
          obtain ⟨hcK, _⟩ := corV_some hv
          obtain ⟨hrK, hri⟩ := atR_some h3
          refine List.any_eq_true.2 ⟨c, hcK, ?_⟩
          have : (K.any fun s => decide ((corK K s.id).map Rep.id = some id)) = true := List.any_eq_true.2 ⟨r, hrK, by rw [hri, hc]; simp [hid]⟩
          rw [this, Bool.or_true, Bool.and_true]
          exact decide_eq_true hid
    · intro hh
      obtain ⟨r, hr, h⟩ := List.any_eq_true.1 hh
      simp only [Bool.and_eq_true, Bool.or_eq_true, decide_eq_true_eq] at h
      rcases h.2 with h2 | h2
      · left
        rw [if_pos (List.any_eq_true.2 ⟨r, hr, by simp [h.1, h2.1, h2.2]⟩)]; rfl
      · right
        obtain ⟨s, _, h3⟩ := List.any_eq_true.1 h2
        exact ⟨s.id, hl _, by simpa using h3⟩
  by_cases h : worksB K id = true
  · rw [if_pos h, if_pos (hiff.2 h)]
  · rw [if_neg h, if_neg (fun h2 => h (hiff.1 h2))]

end Go.Proofs.YtkpaikampmeooaaGreatDoor

namespace Go.Proofs.YtkpaikampmeooaaGreatDoor
open Go.RowKit Go.Maps

set_option maxRecDepth 100000 in
set_option maxHeartbeats 8000000 in
theorem correct_any (B m0 m1 m2 m3 n : Nat) (K : List Rep) (w : World) (hm : M4 B m0 m1 m2 m3) (hKN : KN w m0 m1 m2 m3 n (repF (leftL K)) (wdMV K) noM (wkMV K)) (hK : KnOk K) (hwf : KnWf K) (hN : NeedsAt w) (hB0 : 0 < B) (hB : B ≤ w.heap.size) (hn : n ≤ 3000) :
    Calls Tryz.prog 78 #[knowV m0 m1 m2 m3] w fun e w' => e = .returned (.tuple #[]) ∧ KN w' m0 m1 m2 m3 (n + 5000) (repF (leftL K)) (wdMV K) (coMV K) (wkA K) ∧ Step B w w' := by
  have HM := Lib.hid hm
  have HK := Lib.hid hK
  have HWF := Lib.hid hwf
  have kb := Blk.new w #[.map (some m0), .map (some m1), .map (some m2), .map (some m3)] 109
  have hKN1 := hKN.alloc (.cells #[.map (some m0), .map (some m1), .map (some m2), .map (some m3)] 109)
  have st1 := Step.alloc w hB (.cells #[.map (some m0), .map (some m1), .map (some m2), .map (some m3)] 109)
  have HO := Lib.hid (ofKind_any m0 n (leftL K) 8 _ (by rw [repG_eq]; exact hKN1.r0) hK.left.nodup hK.left.len)
  obtain ⟨hm0l, hm1l, hm2l, hm3l⟩ : m0 < w.heap.size ∧ m1 < w.heap.size ∧ m2 < w.heap.size ∧ m3 < w.heap.size := ⟨hKN.r0.lt, hKN.r1.lt, hKN.r2.lt, hKN.r3.lt⟩
  have kc0 := kb.cell
  have HKN1 := Lib.hid hKN1
  have Hst1 := Lib.hid st1
  have Hkb := Lib.hid kb
  have HN := Lib.hid hN
  clear hm hKN hK hwf kb hKN1 st1 hN
  generalize hkbe : w.heap.size = b0 at *
  go_enter Tryz.func78, Tryz.ntmps78
  go_wp2_with (go_at_call 100; (with_reducible refine (HO.out).mono ?_); rintro e w2 ⟨A', c', ws, rfl, hp, hs, hR, h2⟩)
  have hl2 : ws.length ≤ 1000 := Nat.le_trans (Nat.le_of_eq hp.length_eq) (Nat.le_trans (List.length_filter_le _ _) HK.out.left.len)
  have HI0 : Hid (KN w2 m0 m1 m2 m3 (n + 0) (repF (leftL K)) (wdMV K) (coM K (ws.take 0)) (wkMV K) ∧ Blk w2 b0 #[.map (some m0), .map (some m1), .map (some m2), .map (some m3)] 109 ∧ Reps w2 w2.heap.size A' ws ∧ Step B w w2) := by
    rw [List.take_zero, coM_nil]
    exact Lib.hid ⟨HKN1.out.later h2, (Hkb.out).step (Step.of h2 (Nat.zero_le _)), hR, Hst1.out.trans (Step.of h2 (by have := Hst1.out.size; omega))⟩
  have Hp := Lib.hid hp
  have Hs := Lib.hid hs
  clear hp hs hR h2 kc0 HKN1 Hst1 Hkb HO
  go_loopw [12] (fun ii wr => ∃ i : Nat, i ≤ ws.length ∧ ii = .int .i64 i ∧ Hid (KN wr m0 m1 m2 m3 (n + i) (repF (leftL K)) (wdMV K) (coM K (ws.take i)) (wkMV K) ∧ Blk wr b0 #[.map (some m0), .map (some m1), .map (some m2), .map (some m3)] 109 ∧ Reps wr wr.heap.size A' ws ∧ Step B w wr)) (fun ii _ => ws.length - (vInt ii).toNat)
  case atStart => exact ⟨0, Nat.zero_le _, rfl, HI0⟩
  case round =>
    obtain ⟨i, hi, rfl, hT⟩ := hrel
    clear HI0
    obtain ⟨hKN, hkb, hR, hSt⟩ := hT.out
    have kc := hkb.cell
    by_cases hlt : i < ws.length
    · have hil : (i : Int) < (ws.length : Int) := by omega
      obtain ⟨b, off, rfl, hb, C⟩ := hR.eight hlt
      have hmem := List.mem_filter.1 (Hp.out.mem_iff.1 (List.getElem_mem hlt))
      have HTk := Lib.hid (List.take_succ_eq_append_getElem hlt)
      generalize ws[i] = r at *
      obtain ⟨hrL, hr8⟩ := hmem
      obtain ⟨hrK, hrw⟩ := List.mem_filter.1 hrL
      have h8 : r.kind = 8 := by simpa [kindK] using hr8
      have hrw2 : wdV K r.id < 0 := by simpa using hrw
      obtain ⟨c0, c1, c2, c3, c4, c5, c6, c7⟩ := C
      have k3 := Blk.new wr #[.int .i64 r.id, .int .i64 r.src, .int .i64 r.acc, .int .i64 r.made, .int .i64 r.about, .int .u8 r.kind, .int .i64 r.cents, .int .i64 r.of_] 56
      have hb1 := (Below.refl wr.heap.size wr).alloc (Nat.le_refl _) (.cells #[.int .i64 r.id, .int .i64 r.src, .int .i64 r.acc, .int .i64 r.made, .int .i64 r.about, .int .u8 r.kind, .int .i64 r.cents, .int .i64 r.of_] 56)
      have hKN1 := hKN.alloc (.cells #[.int .i64 r.id, .int .i64 r.src, .int .i64 r.acc, .int .i64 r.made, .int .i64 r.about, .int .u8 r.kind, .int .i64 r.cents, .int .i64 r.of_] 56)
      have hkb1 := hkb.alloc (.cells #[.int .i64 r.id, .int .i64 r.src, .int .i64 r.acc, .int .i64 r.made, .int .i64 r.about, .int .u8 r.kind, .int .i64 r.cents, .int .i64 r.of_] 56)
      have hM0 : MapFn (wr.alloc (.cells #[.int .i64 r.id, .int .i64 r.src, .int .i64 r.acc, .int .i64 r.made, .int .i64 r.about, .int .u8 r.kind, .int .i64 r.cents, .int .i64 r.of_] 56)) Tryz.prog 3 m0 (n + i) (repG (leftL K)) := by rw [repG_eq]; exact hKN1.r0
      have hwo := HWF.out.of_ r hrK
      have hSB : B ≤ wr.heap.size := by have := hSt.size; omega
      have hkblt : b0 < wr.heap.size := hkb.lt
      clear hrL hr8 hrw
      cases ha : atR (leftL K) r.of_ with
      | none =>
        have HC := Lib.hid (named_none m0 _ (leftL K) r _ hM0 hwo ha)
        have Hco : Hid (coM K (ws.take (i + 1)) = coM K (ws.take i)) := Lib.hid (by rw [HTk.out, coM_skip (fun s hs => by rw [ha] at hs; cases hs)])
        clear h8 hrw2 ha
        have HKN2 := Lib.hid hKN1
        have Hkb2 := Lib.hid hkb1
        have HR2 := Lib.hid hR
        have Hk3 := Lib.hid k3
        have Hst := Lib.hid (hSt.trans (Step.of hb1 hSB))
        have HNw := Lib.hid (HN.out.step (hSt.trans (Step.of hb1 hSB)) hB0)
        clear hT hKN hKN1 hkb hkb1 hR hSt hM0 k3
        go_wp2_with (go_at_call 101; (with_reducible refine (HC.out).mono ?_); rintro e w3 ⟨rfl, h3⟩; have kb3 := (Hkb2.out.below h3 Hkb2.out.lt).cell; have k33 := (Hk3.out.below h3 Hk3.out.lt).cell; have h3k := Hk3.out.lt; have h3z := h3.size)
        have h4 := h3.alloc h3.size (.cells #[.int .i64 0, .int .i64 0, .int .i64 0, .int .i64 0, .int .i64 0, .int .u8 0, .int .i64 0, .int .i64 0] 56)
        have s4 := Step.of h4 (Nat.le_trans hSB hb1.size)
        go_roundw
        case rel => exact ⟨i + 1, by omega, by go_num, Lib.hid ⟨by rw [Hco.out]; exact (HKN2.out.later h4).mono (by omega), Hkb2.out.step s4, HR2.out.step ((Step.of hb1 hSB).trans s4), Hst.out.trans s4⟩⟩
        case measure => simp [vInt]; omega
      | some s =>
        have HC := Lib.hid (named_some m0 _ (leftL K) r s _ hM0 hwo ha)
        have hcb := corB_of HK.out.nodup h8 hrw2 ha
        cases hd : (decide (s.src = r.src) && decide (s.acc = r.acc)) with
        | false =>
          rw [hd] at HC
          rw [hd, Bool.false_and] at hcb
          have Hco : Hid (coM K (ws.take (i + 1)) = coM K (ws.take i)) := Lib.hid (by rw [HTk.out, coM_skip (fun s hs _ => hcb)])
          clear hcb h8 hrw2 ha hd
          have HKN2 := Lib.hid hKN1
          have Hkb2 := Lib.hid hkb1
          have HR2 := Lib.hid hR
          have Hk3 := Lib.hid k3
          have Hst := Lib.hid (hSt.trans (Step.of hb1 hSB))
          have HNw := Lib.hid (HN.out.step (hSt.trans (Step.of hb1 hSB)) hB0)
          clear hT hKN hKN1 hkb hkb1 hR hSt hM0 k3
          go_wp2_with (go_at_call 101; (with_reducible refine (HC.out).mono ?_); rintro e w3 ⟨rfl, h3⟩; have kb3 := (Hkb2.out.below h3 Hkb2.out.lt).cell; have k33 := (Hk3.out.below h3 Hk3.out.lt).cell; have h3k := Hk3.out.lt; have h3z := h3.size)
          have h4 := h3.alloc h3.size (.cells #[.int .i64 s.id, .int .i64 s.src, .int .i64 s.acc, .int .i64 s.made, .int .i64 s.about, .int .u8 s.kind, .int .i64 s.cents, .int .i64 s.of_] 56)
          have s4 := Step.of h4 (Nat.le_trans hSB hb1.size)
          go_roundw
          case rel => exact ⟨i + 1, by omega, by go_num, Lib.hid ⟨by rw [Hco.out]; exact (HKN2.out.later h4).mono (by omega), Hkb2.out.step s4, HR2.out.step ((Step.of hb1 hSB).trans s4), Hst.out.trans s4⟩⟩
          case measure => simp [vInt]; omega
        | true =>
          rw [hd] at HC
          rw [hd, Bool.true_and] at hcb
          obtain ⟨hsK, hsid⟩ := atR_some ha
          have hsk := HK.out.left.kind s hsK
          by_cases h7 : s.kind ≤ 7
          · have e7 : decide (s.kind ≤ 7) = true := decide_eq_true h7
            have hcn : inN r.cents 0 (needCents s.kind) = centsB s.kind r.cents := by unfold centsB needCents; rw [if_neg (by omega)]
            cases hcv : centsB s.kind r.cents with
            | false =>
              rw [hcv] at hcb hcn
              have Hco : Hid (coM K (ws.take (i + 1)) = coM K (ws.take i)) := Lib.hid (by rw [HTk.out, coM_skip (fun s hs _ => hcb)])
              have Hcn := Lib.hid hcn
              clear hcb h8 hrw2 ha hd hsid hcv hcn
              have HKN2 := Lib.hid hKN1
              have Hkb2 := Lib.hid hkb1
              have HR2 := Lib.hid hR
              have Hk3 := Lib.hid k3
              have Hst := Lib.hid (hSt.trans (Step.of hb1 hSB))
              have HNw := Lib.hid (HN.out.step (hSt.trans (Step.of hb1 hSB)) hB0)
              clear hT hKN hKN1 hkb hkb1 hR hSt hM0 k3
              go_upto_region 5 with (go_at_call 101; (with_reducible refine (HC.out).mono ?_); rintro e w3 ⟨rfl, h3⟩; have kb3 := (Hkb2.out.below h3 Hkb2.out.lt).cell; have k33 := (Hk3.out.below h3 Hk3.out.lt).cell; have h3k := Hk3.out.lt; have h3z := h3.size)
              have h4 := h3.alloc h3.size (.cells #[.int .i64 s.id, .int .i64 s.src, .int .i64 s.acc, .int .i64 s.made, .int .i64 s.about, .int .u8 s.kind, .int .i64 s.cents, .int .i64 s.of_] 56)
              have s4 := Step.of h4 (Nat.le_trans hSB hb1.size)
              have k4 := Blk.new w3 #[.int .i64 s.id, .int .i64 s.src, .int .i64 s.acc, .int .i64 s.made, .int .i64 s.about, .int .u8 s.kind, .int .i64 s.cents, .int .i64 s.of_] 56
              have hKV := HKN2.out.later h4
              have bkb := Hkb2.out.step s4
              have bk3 := Hk3.out.step s4
              have HRV := Lib.hid (HR2.out.step ((Step.of hb1 hSB).trans s4))
              have HstV := Lib.hid (Hst.out.trans s4)
              have HNV := Lib.hid (HNw.out.step s4 hB0)
              have h34 : wr.heap.size < w3.heap.size := by have := h3.size; simp at this; omega
              have hb03 : b0 < w3.heap.size := by omega
              clear h3 h4 s4 HKN2 Hkb2 Hk3 HR2 Hst HC kc kb3 k33 c0 c1 c2 c3 c4 c5 c6 c7 hb hb1 HNw h3z h3k
              generalize hV4 : w3.heap.size = b4 at *
              generalize w3.alloc (.cells #[.int .i64 s.id, .int .i64 s.src, .int .i64 s.acc, .int .i64 s.made, .int .i64 s.about, .int .u8 s.kind, .int .i64 s.cents, .int .i64 s.of_] 56) = V at *
              clear hV4 w3
              generalize hV3 : wr.heap.size = b3 at *
              clear hV3 wr
              have k0c := bkb.cell
              have k3c := bk3.cell
              have k4c := k4.cell
              have HKV := Lib.hid hKV
              have Hbs := Lib.hid (And.intro bkb (And.intro bk3 k4))
              have HF := Lib.hid (isFact_any s V)
              clear hKV bkb bk3 k4
              go_wp2_with (first
                | (go_at_call 80; (with_reducible refine (HF.out).mono ?_); rintro e w5 ⟨rfl, h5⟩; have k0d := (Hbs.out.1.below h5 Hbs.out.1.lt).cell; have k3d := (Hbs.out.2.1.below h5 Hbs.out.2.1.lt).cell; have k4d := (Hbs.out.2.2.below h5 Hbs.out.2.2.lt).cell; have HC2 := Lib.hid (Hcn.out ▸ centsValid_any s.kind r.cents w5 (HNV.out.later h5) ⟨by omega, by omega⟩))
                | (go_at_call 102; (with_reducible refine (HC2.out).mono ?_); rintro e w6 ⟨rfl, rfl⟩))
              have s5 := Step.of h5 (show B ≤ V.heap.size from by have := HstV.out.size; omega)
              go_roundw
              case rel => exact ⟨i + 1, by omega, by go_num, Lib.hid ⟨by rw [Hco.out]; exact (HKV.out.later h5).mono (by omega), Hbs.out.1.step s5, HRV.out.step s5, HstV.out.trans s5⟩⟩
              case measure => simp [vInt]; omega
            | true =>
              rw [hcv] at hcb hcn
              have Hcp := Lib.hid (coM_put (cs := ws.take i) ha h7 hcb)
              have Hsid := Lib.hid hsid
              have Hcn := Lib.hid hcn
              clear hcb h8 hrw2 ha hd hsid hcv hcn
              have HKN2 := Lib.hid hKN1
              have Hkb2 := Lib.hid hkb1
              have HR2 := Lib.hid hR
              have Hk3 := Lib.hid k3
              have Hst := Lib.hid (hSt.trans (Step.of hb1 hSB))
              have HNw := Lib.hid (HN.out.step (hSt.trans (Step.of hb1 hSB)) hB0)
              clear hT hKN hKN1 hkb hkb1 hR hSt hM0 k3
              go_upto_region 5 with (go_at_call 101; (with_reducible refine (HC.out).mono ?_); rintro e w3 ⟨rfl, h3⟩; have kb3 := (Hkb2.out.below h3 Hkb2.out.lt).cell; have k33 := (Hk3.out.below h3 Hk3.out.lt).cell; have h3k := Hk3.out.lt; have h3z := h3.size)
              have h4 := h3.alloc h3.size (.cells #[.int .i64 s.id, .int .i64 s.src, .int .i64 s.acc, .int .i64 s.made, .int .i64 s.about, .int .u8 s.kind, .int .i64 s.cents, .int .i64 s.of_] 56)
              have s4 := Step.of h4 (Nat.le_trans hSB hb1.size)
              have k4 := Blk.new w3 #[.int .i64 s.id, .int .i64 s.src, .int .i64 s.acc, .int .i64 s.made, .int .i64 s.about, .int .u8 s.kind, .int .i64 s.cents, .int .i64 s.of_] 56
              have hKV := HKN2.out.later h4
              have bkb := Hkb2.out.step s4
              have bk3 := Hk3.out.step s4
              have HRV := Lib.hid (HR2.out.step ((Step.of hb1 hSB).trans s4))
              have HstV := Lib.hid (Hst.out.trans s4)
              have HNV := Lib.hid (HNw.out.step s4 hB0)
              have h34 : wr.heap.size < w3.heap.size := by have := h3.size; simp at this; omega
              have hb03 : b0 < w3.heap.size := by omega
              clear h3 h4 s4 HKN2 Hkb2 Hk3 HR2 Hst HC kc kb3 k33 c0 c1 c2 c3 c4 c5 c6 c7 hb hb1 HNw h3z h3k
              generalize hV4 : w3.heap.size = b4 at *
              generalize w3.alloc (.cells #[.int .i64 s.id, .int .i64 s.src, .int .i64 s.acc, .int .i64 s.made, .int .i64 s.about, .int .u8 s.kind, .int .i64 s.cents, .int .i64 s.of_] 56) = V at *
              clear hV4 w3
              generalize hV3 : wr.heap.size = b3 at *
              clear hV3 wr
              have k0c := bkb.cell
              have k3c := bk3.cell
              have k4c := k4.cell
              have HKV := Lib.hid hKV
              have Hbs := Lib.hid (And.intro bkb (And.intro bk3 k4))
              have HF := Lib.hid (isFact_any s V)
              clear hKV bkb bk3 k4
              go_upto_region 6 with (first
                | (go_at_call 80; (with_reducible refine (HF.out).mono ?_); rintro e w5 ⟨rfl, h5⟩; have k0d := (Hbs.out.1.below h5 Hbs.out.1.lt).cell; have k3d := (Hbs.out.2.1.below h5 Hbs.out.2.1.lt).cell; have k4d := (Hbs.out.2.2.below h5 Hbs.out.2.2.lt).cell; have HC2 := Lib.hid (Hcn.out ▸ centsValid_any s.kind r.cents w5 (HNV.out.later h5) ⟨by omega, by omega⟩))
                | (go_at_call 102; (with_reducible refine (HC2.out).mono ?_); rintro e w6 ⟨rfl, rfl⟩))
              have s5 := Step.of h5 (show B ≤ V.heap.size from by have := HstV.out.size; omega)
              have hK5 := HKV.out.later h5
              obtain ⟨V1, hrun3, hput3, hg3⟩ := hK5.r2.put (int_keyed Tryz.underlying3) Tryz.underlying104 (by unfold maxLen; omega) (keyOf_int_mk Tryz.underlying3 (show (Lit.int .i64 s.id).wf = true by rw [Hsid.out]; exact hwo)) (val := .agg #[.int .i64 r.id, .int .i64 r.src, .int .i64 r.acc, .int .i64 r.made, .int .i64 r.about, .int .u8 r.kind, .int .i64 r.cents, .int .i64 r.of_])
              rw [intG_put, Hsid.out, Hcp.out, ← HTk.out] at hput3
              have hK6 := hK5.put2 HM.out hg3 (by omega) hput3
              have s6 := s5.trans (KN.step_put (B := B) hK5.r2 hg3 (by have := HM.out; obtain ⟨_, _, _, _⟩ := this; omega))
              have HK6 := Lib.hid hK6
              have Hs6 := Lib.hid s6
              clear hK5 hput3 hg3 hK6 s5 s6
              go_wp2_with fail
              go_roundw
              case rel => exact ⟨i + 1, by omega, by go_num, Lib.hid ⟨HK6.out.mono (by omega), Hbs.out.1.step Hs6.out, HRV.out.step Hs6.out, HstV.out.trans Hs6.out⟩⟩
              case measure => simp [vInt]; omega
          · have e7 : decide (s.kind ≤ 7) = false := decide_eq_false h7
            have Hco : Hid (coM K (ws.take (i + 1)) = coM K (ws.take i)) := Lib.hid (by rw [HTk.out, coM_skip (fun q hq hq7 => by rw [ha] at hq; cases hq; exact absurd hq7 h7)])
            clear hcb h8 hrw2 ha hd hsid
            have HKN2 := Lib.hid hKN1
            have Hkb2 := Lib.hid hkb1
            have HR2 := Lib.hid hR
            have Hk3 := Lib.hid k3
            have Hst := Lib.hid (hSt.trans (Step.of hb1 hSB))
            have HNw := Lib.hid (HN.out.step (hSt.trans (Step.of hb1 hSB)) hB0)
            clear hT hKN hKN1 hkb hkb1 hR hSt hM0 k3
            go_upto_region 5 with (go_at_call 101; (with_reducible refine (HC.out).mono ?_); rintro e w3 ⟨rfl, h3⟩; have kb3 := (Hkb2.out.below h3 Hkb2.out.lt).cell; have k33 := (Hk3.out.below h3 Hk3.out.lt).cell; have h3k := Hk3.out.lt; have h3z := h3.size)
            have h4 := h3.alloc h3.size (.cells #[.int .i64 s.id, .int .i64 s.src, .int .i64 s.acc, .int .i64 s.made, .int .i64 s.about, .int .u8 s.kind, .int .i64 s.cents, .int .i64 s.of_] 56)
            have s4 := Step.of h4 (Nat.le_trans hSB hb1.size)
            have k4 := Blk.new w3 #[.int .i64 s.id, .int .i64 s.src, .int .i64 s.acc, .int .i64 s.made, .int .i64 s.about, .int .u8 s.kind, .int .i64 s.cents, .int .i64 s.of_] 56
            have hKV := HKN2.out.later h4
            have bkb := Hkb2.out.step s4
            have bk3 := Hk3.out.step s4
            have HRV := Lib.hid (HR2.out.step ((Step.of hb1 hSB).trans s4))
            have HstV := Lib.hid (Hst.out.trans s4)
            have HNV := Lib.hid (HNw.out.step s4 hB0)
            have h34 : wr.heap.size < w3.heap.size := by have := h3.size; simp at this; omega
            have hb03 : b0 < w3.heap.size := by omega
            clear h3 h4 s4 HKN2 Hkb2 Hk3 HR2 Hst HC kc kb3 k33 c0 c1 c2 c3 c4 c5 c6 c7 hb hb1 HNw h3z h3k
            generalize hV4 : w3.heap.size = b4 at *
            generalize w3.alloc (.cells #[.int .i64 s.id, .int .i64 s.src, .int .i64 s.acc, .int .i64 s.made, .int .i64 s.about, .int .u8 s.kind, .int .i64 s.cents, .int .i64 s.of_] 56) = V at *
            clear hV4 w3
            generalize hV3 : wr.heap.size = b3 at *
            clear hV3 wr
            have k0c := bkb.cell
            have k3c := bk3.cell
            have k4c := k4.cell
            have HKV := Lib.hid hKV
            have Hbs := Lib.hid (And.intro bkb (And.intro bk3 k4))
            have HF := Lib.hid (isFact_any s V)
            clear hKV bkb bk3 k4
            go_wp2_with (go_at_call 80; (with_reducible refine (HF.out).mono ?_); rintro e w5 ⟨rfl, h5⟩)
            have s5 := Step.of h5 (show B ≤ V.heap.size from by have := HstV.out.size; omega)
            go_roundw
            case rel => exact ⟨i + 1, by omega, by go_num, Lib.hid ⟨by rw [Hco.out]; exact (HKV.out.later h5).mono (by omega), Hbs.out.1.step s5, HRV.out.step s5, HstV.out.trans s5⟩⟩
            case measure => simp [vInt]; omega
    · have hil : ¬ (i : Int) < (ws.length : Int) := by omega
      have hall : ws.take i = ws := List.take_of_length_le (by omega)
      rw [hall, coM_end HK.out Hp.out Hs.out] at hKN
      obtain ⟨D, hownD, hatD⟩ := hKN.r2
      have HatD := Lib.hid hatD
      have HKN := Lib.hid hKN
      have Hkb := Lib.hid hkb
      have HSt := Lib.hid hSt
      have hbl := hkb.lt
      obtain ⟨wo, rfl⟩ : ∃ wo : World, wo = wr := ⟨_, rfl⟩
      clear hT hR hSt hKN hatD hkb hall
      go_wp2_with (at_range; refine wpList_range_own _ rfl _ 104 rfl 3 56 (int_keyed Tryz.underlying3) Tryz.underlying104 rawElem m2 (n + i) D rfl hownD ?_; intro w0 hrg0 hg0 hs0)
      have hsz := Maps.size D
      have HDn := Lib.hid (size_le hownD)
      have HI1 : Hid (w0.ranges Tryz.prog 3 rawElem m2 wo.heap.size (n + i) D (has D) (Maps.size D) ∧ KN w0 m0 m1 m2 m3 (n + i + (Maps.size D - Maps.size D)) (repF (leftL K)) (wdMV K) (coMV K) (wkC K (has D)) ∧ Blk w0 b0 #[.map (some m0), .map (some m1), .map (some m2), .map (some m3)] 109 ∧ Step B w w0) := Lib.hid ⟨hrg0, by rw [← wkC_start HatD.out]; exact (HKN.out.more hg0).mono (by omega), Hkb.out.grown hg0 (by simp), HSt.out.trans (Step.of ⟨hg0.os, hg0.tape, hg0.output, hg0.size, fun k hk => hg0.block k hk (by simp)⟩ (by have := HSt.out.size; omega))⟩
      clear hrg0 hg0 hownD kc hsz
      obtain ⟨hI1, hI2⟩ : m2 < wo.heap.size ∧ b0 < wo.heap.size := ⟨by omega, by omega⟩
      go_loopw [7] (fun _ wi => ∃ left cnt, cnt ≤ Maps.size D ∧ Hid (wi.ranges Tryz.prog 3 rawElem m2 wo.heap.size (n + i) D left cnt ∧ KN wi m0 m1 m2 m3 (n + i + (Maps.size D - cnt)) (repF (leftL K)) (wdMV K) (coMV K) (wkC K left) ∧ Blk wi b0 #[.map (some m0), .map (some m1), .map (some m2), .map (some m3)] 109 ∧ Step B w wi)) (fun _ wi => wi.rangeLeft m2 wo.heap.size)
      case atStart => exact ⟨_, _, Nat.le_refl _, HI1⟩
      case round =>
        obtain ⟨left, cnt, hcnt, hR⟩ := hrel
        clear HI1
        obtain ⟨hrg, hKi, hki, hSi⟩ := hR.out
        clear hR
        have Hrg := Lib.hid hrg
        have hDn := HDn.out
        go_wp2_with (at_next; go_loud (refine wpList_next_ranges _ rfl _ rfl 3 (int_keyed Tryz.underlying3) rawElem (Value.int .i64) (fun u : Value => u) intKeyShape rawShape m2 wo.heap.size (n + i) D left cnt rfl Hrg.out ?_ ?_))
        · intro _ hl0
          have HE := Lib.hid (wkC_end (K := K) hl0)
          have HKi := Lib.hid hKi
          have HSi := Lib.hid hSi
          clear hl0 hrg hKi hki hSi
          go_wp2_with fail
          go_end0
          exact ⟨rfl, by rw [← HE.out]; exact HKi.out.mono (by omega), HSi.out⟩
        · intro k1 v kl ya yb w1 cnt1 hkey hlk hv hat1 hrg1 hlt2 hg1 hs1 hen
          obtain ⟨p, ep, rfl, hwp⟩ := Maps.keyOf_int_inv Tryz.underlying3 hkey
          injection ep with _ ep
          subst ep
          have hv' := Option.some.inj hv
          injection hv' with hv1 hv2
          subst hv1
          clear hv hv2
          have hq := got_some HatD.out hat1
          rw [intG_at] at hq
          obtain ⟨q, hcq, rfl⟩ := coMV_some hq
          have hqK : q ∈ K := by
            obtain ⟨_, _, _, h3⟩ := corK_some hcq
            exact (corV_some h3).1
          have hwq := HWF.out.id q hqK
          obtain ⟨ob, hob, hoc, how⟩ := ranges_it hrg
          have hK1 := (hKi.turn hg1 (fun es c e => how es c (Option.some.inj (hob.symm.trans e)))).alloc (.cells #[.int .i64 q.id, .int .i64 q.src, .int .i64 q.acc, .int .i64 q.made, .int .i64 q.about, .int .u8 q.kind, .int .i64 q.cents, .int .i64 q.of_] 56)
          have hk1 := (hki.step (Step.turn (B := 0) hg1 hob hoc (Nat.zero_le _))).alloc (.cells #[.int .i64 q.id, .int .i64 q.src, .int .i64 q.acc, .int .i64 q.made, .int .i64 q.about, .int .u8 q.kind, .int .i64 q.cents, .int .i64 q.of_] 56)
          have hS1 := (hSi.trans (Step.turn (B := B) hg1 hob hoc (by omega))).trans (Step.alloc w1 (by have := hSi.size; omega) (.cells #[.int .i64 q.id, .int .i64 q.src, .int .i64 q.acc, .int .i64 q.made, .int .i64 q.about, .int .u8 q.kind, .int .i64 q.cents, .int .i64 q.of_] 56))
          obtain ⟨w3, hrun3, hput3, hg3⟩ := hK1.r3.put (int_keyed Tryz.underlying3) Tryz.underlying66 (by unfold maxLen; omega) (keyOf_int_mk Tryz.underlying3 hwq) (val := .bool true)
          rw [intG_put, wkC_step hcq] at hput3
          have hM := HM.out
          obtain ⟨_, _, _, _⟩ := hM
          have hK2 := hK1.put3 HM.out hg3 (by omega) hput3
          have hS2 := hS1.trans (KN.step_put (B := B) hK1.r3 hg3 (by omega))
          have hk2 := hk1.step (KN.step_put (B := 0) hK1.r3 hg3 (Nat.zero_le _))
          have hrg2 := (hrg1.alloc (.cells #[.int .i64 q.id, .int .i64 q.src, .int .i64 q.acc, .int .i64 q.made, .int .i64 q.about, .int .u8 q.kind, .int .i64 q.cents, .int .i64 q.of_] 56)).kept hg3 (fun e => by have := Option.some.inj e; omega) (fun e => by have := Option.some.inj e; omega)
          have kq := (Blk.new w1 #[.int .i64 q.id, .int .i64 q.src, .int .i64 q.acc, .int .i64 q.made, .int .i64 q.about, .int .u8 q.kind, .int .i64 q.cents, .int .i64 q.of_] 56).cell
          have kc1 := hk1.cell
          have hb01 : b0 < w1.heap.size := by have := hki.lt; omega
          have HF := Lib.hid (And.intro hrg2 (And.intro (hK2.mono (n' := n + i + (Maps.size D - cnt1)) (by omega)) (And.intro hk2 hS2)))
          have Hlt2 := Lib.hid hlt2
          clear hrg1 hg1 hob hoc hKi hki hSi hK1 hk1 hS1 hput3 hg3 hK2 hS2 hk2 hrg2 hat1 hlk hrg hq hs1 hlt2 how hcq
          go_wp2_with fail
          go_roundw
          case rel => exact ⟨_, cnt1, by have := Hlt2.out; omega, HF⟩
          case measure => rw [HF.out.1.left_eq, Hrg.out.left_eq]; exact Hlt2.out

end Go.Proofs.YtkpaikampmeooaaGreatDoor
