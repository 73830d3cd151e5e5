/- Who is asked for, by the program. Written by p8.py. -/
import Derived.Test.YtbkekdbabkncfaaGreatD2
import Derived.Test.YtbkekdbabkncfaaGreatUPrg1
import Derived.Test.YtbkekdbabkncfaaGreatURef5

namespace Go.Proofs.YtbkekdbabkncfaaGreat
open Go.RowKit Go.Maps

/-- Whether a where asks for some values. -/
def colB (vals : List Int) (x : Whe) : Bool := inN (vals.getD x.col.toNat 0) x.lo x.hi
set_option maxRecDepth 100000 in
set_option maxHeartbeats 4000000 in
theorem asks1_any (col lo hi : Int) (vals : List Int) (V : Option Addr) (vn : Nat) (kc : Nat) (W : World) (hk : W.cell? ⟨kc, 0, none⟩ = some (.slice V vals.length vn)) (hkc : kc < W.heap.size) (hv : IntsAt W W.heap.size V vals) (hc : ∃ k : Nat, col = k ∧ k < vals.length) (_hl : vals.length ≤ 100) :
    Calls Tryz.prog 138 #[.agg #[.int .i64 col, .int .i64 lo, .int .i64 hi], .pointer (some ⟨kc, 0, none⟩)] W fun e w' => e = .returned (.bool (!(colB vals ⟨col, lo, hi⟩))) ∧ Below W.heap.size W w' := by
  obtain ⟨k, rfl, hkl⟩ := hc
  have b1 := (Below.refl W.heap.size W).alloc (Nat.le_refl _) (.cells #[.int .i64 k, .int .i64 lo, .int .i64 hi] 68)
  have k1 := Blk.new W #[.int .i64 k, .int .i64 lo, .int .i64 hi] 68
  have hk1 := (b1.cell (p := ⟨kc, 0, none⟩) hkc).trans hk
  obtain ⟨b, off, rfl, hb, c0⟩ := ints_at (hv.later b1) hkl
  have e1 : colB vals ⟨k, lo, hi⟩ = inN vals[k] lo hi := by unfold colB; dsimp only; rw [Int.toNat_natCast, getD_lt _ _ hkl]
  rw [e1]
  have hkl' : (k : Int) < (vals.length : Int) := by omega
  have HV := Lib.hid (fun V => withinU_any vals[k] lo hi V)
  generalize inN vals[k] lo hi = p at *
  generalize vals[k] = v at *
  have hkn : (k : Int).toNat = k := by omega
  have hkc1 := Nat.lt_of_lt_of_le hkc b1.size
  clear hk hv e1
  go_enter Tryz.func138, Tryz.ntmps138
  go_upto_region 1 with fail
  generalize hW1 : W.alloc (.cells #[.int .i64 k, .int .i64 lo, .int .i64 hi] 68) = W1 at *
  clear hW1
  have a0 := After.cell (B := W1.heap.size) hk1 hkc1
  have a1 := After.cells (B := W1.heap.size) k1.cell k1.lt
  have a2 := After.cell (B := W1.heap.size) c0 hb
  clear hk1 k1 c0
  refine wp_region_class_lit (C := fun w' => ∃ z : After W1.heap.size W1, w' = z.val) (by kernel_rfl) (by kernel_rfl) ⟨⟨_, (Below.refl _ _).drew⟩, rfl⟩ ?_
  repeat (go_big_quiet_step ((first
    | (go_at_call 78; with_reducible exact after_of_same _ (HV.out _)))))
  refine wpQuiet_nil ?_
  intro wz0 hw'
  obtain ⟨⟨wz, hz⟩, hw''⟩ := hw'
  dsimp only at hw''
  subst hw''
  go_wp2_with fail
  go_ret
  exact ⟨rfl, b1.trans (hz.mono b1.size)⟩

set_option maxRecDepth 100000 in
set_option maxHeartbeats 1000000 in
theorem indexAsk_any (l : List Whe) (A : Option Addr) (c : Nat) (vals : List Int) (V : Option Addr) (vn : Nat) (kc : Nat) (w : World) (h : WhesAt w w.heap.size A l) (hl : l.length ≤ maxLen) (hk : w.cell? ⟨kc, 0, none⟩ = some (.slice V vals.length vn)) (hkc : kc < w.heap.size) (hv : IntsAt w w.heap.size V vals) (hcs : ∀ x ∈ l, ∃ k : Nat, x.col = k ∧ k < vals.length) (hvl : vals.length ≤ 100) :
    Calls Tryz.prog 122 #[.slice A l.length c, .func (.func 138) #[] #[.pointer (some ⟨kc, 0, none⟩)]] w (IdxPost (!(l.all fun x => colB vals x)) w) := by
  unfold maxLen at hl
  have HH := Lib.hid h
  clear h
  go_enter Tryz.func122, Tryz.ntmps122
  go_wp2_with fail
  go_loopw [8] (fun ii wr => ∃ i : Nat, i ≤ l.length ∧ ii = .int .i64 i ∧ Hid ((∀ j, (hj : j < l.length) → j < i → (fun x => colB vals x) l[j] = true) ∧ Below w.heap.size w wr)) (fun ii _ => l.length - (vInt ii).toNat)
  case atStart => exact ⟨0, Nat.zero_le _, rfl, Lib.hid ⟨fun j hj hj2 => by omega, Below.refl _ _⟩⟩
  case round =>
    obtain ⟨i, hi, rfl, hR⟩ := hrel
    by_cases hlt : i < l.length
    · have hil : (i : Int) < (l.length : Int) := by omega
      obtain ⟨hall, hB⟩ := hR.out
      obtain ⟨b, off, rfl, hb, c0, c1, c2⟩ := whes_at (HH.out.later hB) hlt
      have HC := Lib.hid (asks1_any l[i].col l[i].lo l[i].hi vals V vn kc wr ((hB.cell (p := ⟨kc, 0, none⟩) hkc).trans hk) (Nat.lt_of_lt_of_le hkc hB.size) (hv.later hB) (hcs _ (List.getElem_mem hlt)) hvl)
      have HN : Hid ((fun x => colB vals x) l[i] = true → ∀ j, (hj : j < l.length) → j < i + 1 → (fun x => colB vals x) l[j] = true) := Lib.hid (fun e j hj hj2 => by
        by_cases hji : j = i
        · subst hji; exact e
        · exact hall j hj (by omega))
      have HF : Hid ((fun x => colB vals x) l[i] = false → l.all (fun x => colB vals x) = false) := Lib.hid (fun e => by
        rw [List.all_eq_false]; exact ⟨l[i], List.getElem_mem hlt, by dsimp only at e; rw [e]; decide⟩)
      clear hall hR
      dsimp only at HN HF
      have hx : colB vals ⟨l[i].col, l[i].lo, l[i].hi⟩ = colB vals l[i] := rfl
      rw [hx] at HC
      clear hx
      generalize hp0 : colB vals l[i] = p0 at HC HN HF
      have Hp0 := Lib.hid hp0
      clear hp0
      cases p : p0 with
      | true =>
        rw [p] at HC
        have HR := Lib.hid (HN.out p)
        clear HN HF p
        go_wp2_with (go_at_call 138; (with_reducible refine (HC.out).mono ?_); rintro e w2 ⟨rfl, h2⟩)
        go_roundw
        case rel => exact ⟨i + 1, by omega, by go_num, Lib.hid ⟨HR.out, hB.trans (h2.mono hB.size)⟩⟩
        case measure => simp [vInt]; omega
      | false =>
        rw [p] at HC
        have HR := Lib.hid (HF.out p)
        clear HN HF p
        go_wp2_with (go_at_call 138; (with_reducible refine (HC.out).mono ?_); rintro e w2 ⟨rfl, h2⟩)
        go_ret
        exact ⟨_, rfl, by rw [HR.out]; simp, hB.trans (h2.mono hB.size)⟩
    · have hil : ¬ (i : Int) < (l.length : Int) := by omega
      have HR : Hid (l.all (fun x => colB vals x) = true) := Lib.hid (by
        rw [List.all_eq_true]
        intro x hx
        obtain ⟨j, hj, rfl⟩ := List.getElem_of_mem hx
        exact hR.out.1 j hj (by omega))
      have hfin := hR.out.2
      clear hR
      go_wp2_with fail
      go_ret
      exact ⟨_, rfl, by rw [HR.out]; decide, hfin⟩

set_option maxHeartbeats 1000000 in
theorem containsAsk_any (l : List Whe) (A : Option Addr) (c : Nat) (vals : List Int) (V : Option Addr) (vn : Nat) (kc : Nat) (w : World) (h : WhesAt w w.heap.size A l) (hl : l.length ≤ maxLen) (hk : w.cell? ⟨kc, 0, none⟩ = some (.slice V vals.length vn)) (hkc : kc < w.heap.size) (hv : IntsAt w w.heap.size V vals) (hcs : ∀ x ∈ l, ∃ k : Nat, x.col = k ∧ k < vals.length) (hvl : vals.length ≤ 100) :
    Calls Tryz.prog 91 #[.slice A l.length c, .func (.func 138) #[] #[.pointer (some ⟨kc, 0, none⟩)]] w fun e w' => e = .returned (.bool (!(l.all fun x => colB vals x))) ∧ Below w.heap.size w w' := by
  have HI := Lib.hid (indexAsk_any l A c vals V vn kc w h hl hk hkc hv hcs hvl)
  generalize (!(l.all fun x => colB vals x)) = b at *
  clear h
  go_enter Tryz.func91, Tryz.ntmps91
  go_wp2_with (go_at_call 122; (with_reducible refine (HI.out).mono ?_); rintro e w1 ⟨n, rfl, hn, h1⟩; have Hn := Lib.hid hn; clear hn)
  go_ret
  exact ⟨ret_bool Hn.out, h1⟩

set_option maxRecDepth 100000 in
set_option maxHeartbeats 4000000 in
theorem asksForU_any (id : Int) (vals : List Int) (V : Option Addr) (vn : Nat) (wh : List Whe) (col clip step : Int) (W : Option Addr) (wc : Nat) (w : World) (hv : IntsAt w w.heap.size V vals) (hq : WhesAt w w.heap.size W wh) (hl : wh.length ≤ maxLen) (hcs : ∀ x ∈ wh, ∃ k : Nat, x.col = k ∧ k < vals.length) (hvl : vals.length ≤ 100) :
    Calls Tryz.prog 111 #[.agg #[.slice W wh.length wc, .int .i64 col, .int .i64 clip, .int .i64 step], .slice V vals.length vn] w fun e w' => e = .returned (.bool (askB ⟨id, vals⟩ ⟨wh, col, clip, step⟩)) ∧ Below w.heap.size w w' := by
  have b2 := ((Below.refl w.heap.size w).alloc (Nat.le_refl _) (.cells #[.slice W wh.length wc, .int .i64 col, .int .i64 clip, .int .i64 step] 25)).alloc (by simp) (.cells #[.slice V vals.length vn] 32)
  have k1 := (Blk.new w #[.slice W wh.length wc, .int .i64 col, .int .i64 clip, .int .i64 step] 25).alloc (.cells #[.slice V vals.length vn] 32)
  have k2 := newAt' (w.alloc (.cells #[.slice W wh.length wc, .int .i64 col, .int .i64 clip, .int .i64 step] 25)) #[.slice V vals.length vn] 32 (g := w.heap.size + 1) (by simp)
  have k1c := k1.cell
  have hk2 : ((w.alloc (.cells #[.slice W wh.length wc, .int .i64 col, .int .i64 clip, .int .i64 step] 25)).alloc (.cells #[.slice V vals.length vn] 32)).cell? ⟨w.heap.size + 1, 0, none⟩ = some (.slice V vals.length vn) := k2.cell 0
  have HC := Lib.hid (containsAsk_any wh W wc vals V vn (w.heap.size + 1) _ (hq.later b2) hl hk2 k2.lt (hv.later b2) hcs hvl)
  have hE : askB ⟨id, vals⟩ ⟨wh, col, clip, step⟩ = (wh.all fun x => colB vals x) := rfl
  rw [hE]
  clear hE hv hq hk2 k1 k2
  generalize (wh.all fun x => colB vals x) = p at *
  go_enter Tryz.func111, Tryz.ntmps111
  go_wp2_with (go_at_call 91; (with_reducible refine (HC.out).mono ?_); rintro e w1 ⟨rfl, h1⟩)
  go_ret
  exact ⟨ret_bool (by simp), b2.trans (h1.mono b2.size)⟩
theorem cols_ok {columns : Int} {q : Que} {s : Sub} (hq : queB columns q = true) (hs : subB columns s = true) : ∀ x ∈ q.wheres, ∃ k : Nat, x.col = k ∧ k < s.vals.length := fun x hx => by
  obtain ⟨i, hi, rfl⟩ := List.mem_iff_getElem.1 hx
  have h1 := (que_parts hq).2.2.1 i hi
  have h2 := (sub_parts hs).2.1
  exact ⟨q.wheres[i].col.toNat, by omega, by omega⟩

set_option maxRecDepth 100000 in
set_option maxHeartbeats 8000000 in
theorem askedU_any (columns : Int) (ol : List SubD) (A : Option Addr) (c m : Nat) (wh : List Whe) (col clip step : Int) (W : Option Addr) (wc : Nat) (w : World) (ht : TabAt w columns ol A m) (hq : WhesAt w w.heap.size W wh) (hQ : queB columns ⟨wh, col, clip, step⟩ = true) :
    Calls Tryz.prog 75 #[.agg #[.slice A ol.length c, .map (some m)], .agg #[.slice W wh.length wc, .int .i64 col, .int .i64 clip, .int .i64 step]] w fun e w' => e = .returned (.int .i64 (bitsN (askL ⟨wh, col, clip, step⟩ ol))) ∧ Below w.heap.size w w' := by
  have b2 := ((Below.refl w.heap.size w).alloc (Nat.le_refl _) (.cells #[.slice A ol.length c, .map (some m)] 72)).alloc (by simp) (.cells #[.slice W wh.length wc, .int .i64 col, .int .i64 clip, .int .i64 step] 25)
  have k1 := (Blk.new w #[.slice A ol.length c, .map (some m)] 72).alloc (.cells #[.slice W wh.length wc, .int .i64 col, .int .i64 clip, .int .i64 step] 25)
  have k2 := newAt' (w.alloc (.cells #[.slice A ol.length c, .map (some m)] 72)) #[.slice W wh.length wc, .int .i64 col, .int .i64 clip, .int .i64 step] 25 (g := w.heap.size + 1) (by simp)
  have hl16 := ht.len
  have hwl := (que_parts hQ).1
  have HW4 : Hid (wh.length ≤ maxLen) := Lib.hid (by have h0 : wh.length ≤ 4 := hwl; unfold maxLen; omega)
  have HT := Lib.hid (ht.later b2)
  have HQA := Lib.hid (hq.later b2)
  have HQ := Lib.hid hQ
  have g1 := k1.lt
  have g2 := k2.lt
  have k1c := k1.cell
  have HB2 := Lib.hid b2
  clear ht hq hQ hwl b2
  go_enter Tryz.func75, Tryz.ntmps75
  go_wp2_with fail
  generalize hW2 : (w.alloc (.cells #[.slice A ol.length c, .map (some m)] 72)).alloc (.cells #[.slice W wh.length wc, .int .i64 col, .int .i64 clip, .int .i64 step] 25) = W2 at *
  clear hW2
  have HK1 := Lib.hid k1
  have HK2 := Lib.hid k2
  clear k1 k2 k1c
  have HS0 : Hid (bitsN (askL ⟨wh, col, clip, step⟩ (ol.take 0)) = 0) := Lib.hid (by simp [askL, bitsN])
  go_loopw [5, 11] (fun bb ii wr => ∃ (i : Nat) (N : Nat), i ≤ ol.length ∧ bb = .int .i64 N ∧ ii = .int .i64 i ∧ Hid (N = bitsN (askL ⟨wh, col, clip, step⟩ (ol.take i)) ∧ Below W2.heap.size W2 wr)) (fun _ ii _ => ol.length - (vInt ii).toNat)
  case atStart => exact ⟨0, 0, Nat.zero_le _, rfl, rfl, Lib.hid ⟨HS0.out.symm, Below.refl _ _⟩⟩
  case round =>
    obtain ⟨i, N, hi, rfl, rfl, hR⟩ := hrel
    clear HS0
    obtain ⟨hN, hB⟩ := hR.out
    have HN := Lib.hid hN
    clear hR hN
    have TT := HT.out.later hB
    have kr1 := HK1.out.below hB g1
    have kr2 := HK2.out.below hB g2
    have r1 := kr1.cell
    have r2 := kr2.cell
    by_cases hlt : i < ol.length
    · have hil : (i : Int) < (ol.length : Int) := by omega
      have hlt' : i < (ol.map fun x => x.v.id).length := by rw [List.length_map]; exact hlt
      obtain ⟨b, off, rfl, hb, c0'⟩ := ints_at TT.ids hlt'
      have c0 : wr.cell? ⟨b, off + i, none⟩ = some (.int .i64 ol[i].v.id) := by rw [List.getElem_map] at c0'; exact c0'
      have hx : ol[i] ∈ ol := List.getElem_mem hlt
      have hlook := TT.look hx
      have hsb := TT.ok _ hx
      have HAs := Lib.hid (asksForU_any ol[i].v.id ol[i].v.vals ol[i].V ol[i].c wh col clip step W wc wr (TT.vals _ hx) (HQA.out.later hB) HW4.out (cols_ok HQ.out hsb) (by have := (sub_parts hsb).2.1; have := TT.col; omega))
      have HSt : Hid (bitsN (askL ⟨wh, col, clip, step⟩ (ol.take (i + 1))) = N + if askB ol[i].v ⟨wh, col, clip, step⟩ = true then 2 ^ i else 0) := Lib.hid (by
        have e : (askL ⟨wh, col, clip, step⟩ (ol.take i)).length = i := by simp [askL]; omega
        rw [askL_take hlt, bitsN_snoc, HN.out, e])
      have hNl : N < 2 ^ i := by
        rw [HN.out]
        have := bitsN_lt (askL ⟨wh, col, clip, step⟩ (ol.take i))
        have e : (askL ⟨wh, col, clip, step⟩ (ol.take i)).length = i := by simp [askL]; omega
        rwa [e] at this
      have hp16 := pow16 i (by omega)
      have HOr := Lib.hid (or_bit N i (by omega) hNl)
      have HSh := Lib.hid (shl_bit i (by omega))
      have hxx : askB ⟨ol[i].v.id, ol[i].v.vals⟩ ⟨wh, col, clip, step⟩ = askB ol[i].v ⟨wh, col, clip, step⟩ := rfl
      rw [hxx] at HAs
      clear hxx c0' hx hsb TT kr1 kr2 hlt'
      generalize askB ol[i].v ⟨wh, col, clip, step⟩ = p at *
      generalize ol[i] = x at *
      cases p with
      | false =>
        clear HOr HSh
        go_wp2_with (go_at_call 111; (with_reducible refine (HAs.out).mono ?_); rintro e w3 ⟨rfl, h3⟩)
        go_roundw
        case rel => exact ⟨i + 1, N, by omega, rfl, by go_num, Lib.hid ⟨by rw [HSt.out]; simp, hB.trans (h3.mono hB.size)⟩⟩
        case measure => simp [vInt]; omega
      | true =>
        have hor := HOr.out
        have hsh := HSh.out
        go_wp2_with (go_at_call 111; (with_reducible refine (HAs.out).mono ?_); rintro e w3 ⟨rfl, h3⟩)
        go_roundw
        case rel => exact ⟨i + 1, N + 2 ^ i, by omega, by rw [show ((2 : Int) ^ i) = ((2 ^ i : Nat) : Int) by push_cast; rfl, HOr.out], by go_num, Lib.hid ⟨by rw [HSt.out]; simp, hB.trans (h3.mono hB.size)⟩⟩
        case measure => simp [vInt]; omega
    · have hil : ¬ (i : Int) < (ol.length : Int) := by omega
      have HE : Hid (N = bitsN (askL ⟨wh, col, clip, step⟩ ol)) := Lib.hid (by rw [HN.out, List.take_of_length_le (by omega)])
      clear TT kr1 kr2
      go_wp2_with fail
      go_ret
      exact ⟨by rw [HE.out]; rfl, HB2.out.trans (hB.mono HB2.out.size)⟩
end Go.Proofs.YtbkekdbabkncfaaGreat
