/- The program's store of reports: made, asked for one that is named, and for those of a kind. -/
import Derived.Test.YtliijiflbfgfaaaDoorADelF
import Derived.Test.YtliijiflbfgfaaaDoorAChkP

namespace Go.Proofs.YtliijiflbfgfaaaDoor
open Go.RowKit Go.Maps

theorem know_put {K : List Rep} {r : Rep} (d : Int) (hd : r.made ≤ d) (hr : ∀ s, atR K r.id = some s → s = r) : putFn (repG K) (.int .i64 r.id) (.agg #[.int .i64 r.id, .int .i64 r.src, .int .i64 r.acc, .int .i64 r.made, .int .i64 r.about, .int .u8 r.kind, .int .i64 r.cents, .int .i64 r.of_]) = repG (knowStep d K r) := by
  unfold knowStep
  cases h : atR K r.id with
  | none => rw [if_pos ⟨hd, rfl⟩, put_snoc hr]
  | some s =>
    rw [if_neg (by simp)]
    obtain rfl := hr s h
    exact repG_same K s h
/-- A store's map is in block m. -/
abbrev storeV (m : Nat) : Value := .agg #[.map (some m)]

set_option maxRecDepth 100000 in
set_option maxHeartbeats 1000000 in
theorem newStore_any (l : List Rep) (A : Option Addr) (c : Nat) (d : Int) (w : World) (h : Reps w w.heap.size A l) (hl : l.length ≤ 1000) (hid : ∀ r ∈ l, (Lit.int .i64 r.id).wf = true) (h1 : OneId l) :
    Calls Tryd.prog 26 #[.slice A l.length c, .int .i64 d] w fun e w' => e = .returned (storeV (w.heap.size + 1)) ∧ MapFn w' Tryd.prog 3 (w.heap.size + 1) l.length (repG (knownL l d)) ∧ Below w.heap.size w w' := by
  have hmm := @run_makeMap Tryd.prog
  have HI0 : Hid (Blk (((w.alloc (.cells #[.map none] 38)).alloc (.map #[] 0)).alloc (.cells #[.map (some (w.heap.size + 1))] 38)) w.heap.size #[.map none] 38 ∧ Blk (((w.alloc (.cells #[.map none] 38)).alloc (.map #[] 0)).alloc (.cells #[.map (some (w.heap.size + 1))] 38)) (w.heap.size + 2) #[.map (some (w.heap.size + 1))] 38 ∧ MapFn (((w.alloc (.cells #[.map none] 38)).alloc (.map #[] 0)).alloc (.cells #[.map (some (w.heap.size + 1))] 38)) Tryd.prog 3 (w.heap.size + 1) 0 (repG (knownL (l.take 0) d)) ∧ Below w.heap.size w (((w.alloc (.cells #[.map none] 38)).alloc (.map #[] 0)).alloc (.cells #[.map (some (w.heap.size + 1))] 38))) := by
    have m0 := (MapFn.made (w.alloc (.cells #[.map none] 38)) Tryd.prog 3).alloc (.cells #[.map (some (w.heap.size + 1))] 38)
    have b2 := Blk.new ((w.alloc (.cells #[.map none] 38)).alloc (.map #[] 0)) #[.map (some (w.heap.size + 1))] 38
    simp only [World.size_alloc] at m0 b2
    exact Lib.hid ⟨((Blk.new w #[.map none] 38).alloc _).alloc _, b2, m0, (((Below.refl _ _).alloc (Nat.le_refl _) _).alloc (by simp) _).alloc (by simp; omega) _⟩
  have Hid' := Lib.hid hid
  have H1 := Lib.hid h1
  clear hid h1
  go_enter Tryd.func26, Tryd.ntmps26
  go_wp2_with fail
  go_loopw [12] (fun ii wr => ∃ i : Nat, i ≤ l.length ∧ ii = .int .i64 i ∧ Hid (Blk wr w.heap.size #[.map none] 38 ∧ Blk wr (w.heap.size + 2) #[.map (some (w.heap.size + 1))] 38 ∧ MapFn wr Tryd.prog 3 (w.heap.size + 1) i (repG (knownL (l.take i) d)) ∧ Below w.heap.size w wr)) (fun ii _ => l.length - (vInt ii).toNat)
  case atStart => exact ⟨0, Nat.zero_le _, rfl, HI0⟩
  case round =>
    obtain ⟨i, hi, rfl, hR⟩ := hrel
    clear HI0
    obtain ⟨B0, B2, hM, hB⟩ := hR.out
    have k2 := B2.cell
    by_cases hlt : i < l.length
    · have hil : (i : Int) < (l.length : Int) := by omega
      obtain ⟨b, off, rfl, hb, C⟩ := (h.later hB).eight hlt
      have hwf := Hid'.out _ (List.getElem_mem hlt)
      have HT : Hid (knownL (l.take (i + 1)) d = knowStep d (knownL (l.take i) d) l[i]) := Lib.hid (by rw [← knownL_snoc, List.take_succ_eq_append_getElem hlt])
      have HN : Hid (∀ s, atR (knownL (l.take i) d) l[i].id = some s → s = l[i]) := Lib.hid (fun s hs => by
        obtain ⟨q1, q2⟩ := atR_some hs
        have q3 := ((knownL_spec (d := d) (l.take i)).2.1 s q1).1
        exact H1.out s (List.mem_of_mem_take q3) _ (List.getElem_mem hlt) q2)
      generalize l[i] = r at *
      obtain ⟨c0, c1, c2, c3, c4, c5, c6, c7⟩ := C
      have hB1 := hB.alloc hB.size (.cells #[.int .i64 r.id, .int .i64 r.src, .int .i64 r.acc, .int .i64 r.made, .int .i64 r.about, .int .u8 r.kind, .int .i64 r.cents, .int .i64 r.of_] 47)
      by_cases hd : r.made ≤ d
      · obtain ⟨w3, hrun3, hput, hg3⟩ := (hM.alloc (.cells #[.int .i64 r.id, .int .i64 r.src, .int .i64 r.acc, .int .i64 r.made, .int .i64 r.about, .int .u8 r.kind, .int .i64 r.cents, .int .i64 r.of_] 47)).put (int_keyed Tryd.underlying3) Tryd.underlying36 (by unfold maxLen; omega) (keyOf_int_mk Tryd.underlying3 hwf) (val := .agg #[.int .i64 r.id, .int .i64 r.src, .int .i64 r.acc, .int .i64 r.made, .int .i64 r.about, .int .u8 r.kind, .int .i64 r.cents, .int .i64 r.of_])
        rw [know_put d hd HN.out, ← HT.out] at hput
        have HJ : Hid (Blk w3 w.heap.size #[.map none] 38 ∧ Blk w3 (w.heap.size + 2) #[.map (some (w.heap.size + 1))] 38 ∧ MapFn w3 Tryd.prog 3 (w.heap.size + 1) (i + 1) (repG (knownL (l.take (i + 1)) d)) ∧ Below w.heap.size w w3) := Lib.hid ⟨(B0.alloc _).grown hg3 (by simp), (B2.alloc _).grown hg3 (by simp), hput, hB1.grown hg3 hB1.size (fun k e => by have := Option.some.inj e; omega)⟩
        have b2lt := B2.lt
        clear hput hM hR B0 B2 hB hB1 hg3
        go_wp2_with fail
        go_roundw
        case rel => exact ⟨i + 1, by omega, by go_num, HJ⟩
        case measure => simp [vInt]; omega
      · have HJ : Hid (Blk (wr.alloc (.cells #[.int .i64 r.id, .int .i64 r.src, .int .i64 r.acc, .int .i64 r.made, .int .i64 r.about, .int .u8 r.kind, .int .i64 r.cents, .int .i64 r.of_] 47)) w.heap.size #[.map none] 38 ∧ Blk (wr.alloc (.cells #[.int .i64 r.id, .int .i64 r.src, .int .i64 r.acc, .int .i64 r.made, .int .i64 r.about, .int .u8 r.kind, .int .i64 r.cents, .int .i64 r.of_] 47)) (w.heap.size + 2) #[.map (some (w.heap.size + 1))] 38 ∧ MapFn (wr.alloc (.cells #[.int .i64 r.id, .int .i64 r.src, .int .i64 r.acc, .int .i64 r.made, .int .i64 r.about, .int .u8 r.kind, .int .i64 r.cents, .int .i64 r.of_] 47)) Tryd.prog 3 (w.heap.size + 1) (i + 1) (repG (knownL (l.take (i + 1)) d)) ∧ Below w.heap.size w (wr.alloc (.cells #[.int .i64 r.id, .int .i64 r.src, .int .i64 r.acc, .int .i64 r.made, .int .i64 r.about, .int .u8 r.kind, .int .i64 r.cents, .int .i64 r.of_] 47))) := Lib.hid ⟨B0.alloc _, B2.alloc _, by rw [HT.out]; unfold knowStep; rw [if_neg (fun e => hd e.1)]; exact (hM.alloc _).mono (by omega), hB1⟩
        have b2lt := B2.lt
        clear hM hR B0 B2 hB hB1
        go_wp2_with fail
        go_roundw
        case rel => exact ⟨i + 1, by omega, by go_num, HJ⟩
        case measure => simp [vInt]; omega
    · have hil : ¬ (i : Int) < (l.length : Int) := by omega
      have hii : i = l.length := by omega
      subst hii
      rw [List.take_length] at hM
      have k0 := B0.cell
      have f0 := B0.free
      have b2lt := B2.lt
      have HM := Lib.hid (hM.setCell (a := ⟨w.heap.size, 0, none⟩) (by simp) (.map (some (w.heap.size + 1))))
      have HB := Lib.hid (hB.setCell (p := ⟨w.heap.size, 0, none⟩) (by simp) (.map (some (w.heap.size + 1))))
      have r0 := (B0.set 0 (.map (some (w.heap.size + 1)))).cell
      clear hR hM hB
      go_wp2_with fail
      refine bodyPost_ret (v := storeV (w.heap.size + 1)) ?hres rfl ?hpost
      case hres => simp [results, Tryd.results26, go_sem, r0]
      case hpost => exact ⟨rfl, HM.out, HB.out⟩

end Go.Proofs.YtliijiflbfgfaaaDoor
