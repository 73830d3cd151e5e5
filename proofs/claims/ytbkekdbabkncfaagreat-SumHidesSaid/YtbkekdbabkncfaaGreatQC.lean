/- Who leads, who is alone, who is where: by the reference. -/
import Derived.Test.YtbkekdbabkncfaaGreatQB
import Derived.Test.YtbkekdbabkncfaaGreatUR
import Derived.Deep.RegionHeld3
import Derived.Test.YtbkekdbabkncfaaGreatQ5
import Derived.Test.YtbkekdbabkncfaaGreatSSame0

namespace Go.Proofs.YtbkekdbabkncfaaGreat
open Go.RowKit Go.Maps Det

/-- Rows that lie in memory. -/
structure RowsAt (w : World) (A : Option Addr) (L : List RowD) : Prop where
  row : Flat 2 rowC w w.heap.size A L
  each : ∀ x ∈ L, FrcAt w w.heap.size x.A (rowL x.v.e)
  cap : ∀ x ∈ L, (rowL x.v.e).length ≤ x.c
theorem RowsAt.later {w w' : World} {A : Option Addr} {L : List RowD} (h : RowsAt w A L) (hb : Below w.heap.size w w') : RowsAt w' A L := ⟨h.row.later hb, fun x hx => (h.each x hx).later hb, h.cap⟩
theorem RowsOwn.at {B : Nat} {w : World} {A : Option Addr} {c : Nat} {L : List RowD} (h : RowsOwn B w A c L) : RowsAt w A L :=
  ⟨Flat.of_own (c := c) rowC_len (by decide) h.1, fun x hx => (h.2 x hx).1.flat, fun x hx => (h.2 x hx).2⟩
theorem row_at {w : World} {A : Option Addr} {L : List RowD} (h : RowsAt w A L) {k : Nat} (hk : k < L.length) : ∃ b off, A = some ⟨b, off, none⟩ ∧ b < w.heap.size ∧ w.cell? ⟨b, off + k * 2, none⟩ = some (.int .i64 L[k].v.at_) ∧ w.cell? ⟨b, off + k * 2 + 1, none⟩ = some (.slice L[k].A (rowL L[k].v.e).length L[k].c) := by
  obtain ⟨b, off, e, h1, h2⟩ := h.row k hk
  exact ⟨b, off, e, h1, h2 0 (by omega), h2 1 (by omega)⟩
/-- Where the row of a leader is. -/
def fndZ (ls : List Led) (a : Int) : Option Nat := (List.range ls.length).find? fun i => decide (((ls.getD i ⟨⟨[], []⟩, 0⟩).at_ : Int) = a)
theorem fndZ_some {ls : List Led} {a : Int} {i : Nat} (hi : i < ls.length) (h : (ls[i].at_ : Int) = a) (hn : ∀ j, (hj : j < ls.length) → j < i → ¬ (ls[j].at_ : Int) = a) : fndZ ls a = some i := by
  unfold fndZ
  rw [List.find?_range_eq_some]
  refine ⟨by rw [getD_lt ls _ hi]; simpa using h, by simpa using hi, fun j hj => ?_⟩
  rw [getD_lt ls _ (by omega : j < ls.length)]
  simpa using hn j (by omega) hj
theorem fndZ_none {ls : List Led} {a : Int} (hn : ∀ j, (hj : j < ls.length) → ¬ (ls[j].at_ : Int) = a) : fndZ ls a = none := by
  unfold fndZ
  rw [List.find?_eq_none]
  intro j hj
  rw [List.mem_range] at hj
  rw [getD_lt ls _ hj]
  simpa using hn j hj
theorem fndZ_nat (ls : List Led) (a : Nat) : fndZ ls (a : Int) = fndL ls a := by
  unfold fndZ fndL
  congr 1
  funext i
  by_cases h : (ls.getD i ⟨⟨[], []⟩, 0⟩).at_ = a
  · rw [decide_eq_true h, decide_eq_true (by omega)]
  · rw [decide_eq_false h, decide_eq_false (by omega)]
theorem fndZ_neg (ls : List Led) : fndZ ls (-1) = none := fndZ_none fun j hj => by omega
set_option maxRecDepth 100000 in
set_option maxHeartbeats 4000000 in
theorem leads10_any (L : List RowD) (A : Option Addr) (c : Nat) (a : Int) (w : World) (h : RowsAt w A L) (hl : L.length ≤ 1000) :
    Calls Tryz.prog 52 #[.slice A L.length c, .int .i64 a] w fun e w' => e = .returned (.int .i64 (atI (fndZ (L.map RowD.v) a))) ∧ Below w.heap.size w w' := by
  have HH := Lib.hid h
  clear h
  go_enter Tryz.func52, Tryz.ntmps52
  go_wp2_with fail
  go_loopw [5] (fun ii wr => ∃ i : Nat, i ≤ L.length ∧ ii = .int .i64 i ∧ Hid ((∀ j, (hj : j < L.length) → j < i → ¬ (L[j].v.at_ : Int) = a) ∧ Below w.heap.size w wr)) (fun ii _ => L.length - (vInt ii).toNat)
  case atStart => exact ⟨0, Nat.zero_le _, rfl, Lib.hid ⟨fun j _ h1 => by omega, Below.refl _ _⟩⟩
  case round =>
    obtain ⟨i, hi, rfl, hR⟩ := hrel
    obtain ⟨hall, hB⟩ := hR.out
    clear hR
    by_cases hlt : i < L.length
    · have hil : (i : Int) < (L.length : Int) := by omega
      obtain ⟨b, off, rfl, hbb, c0, c1⟩ := row_at (HH.out.later hB) hlt
      by_cases he : (L[i].v.at_ : Int) = a
      · have HF : Hid (fndZ (L.map RowD.v) a = some i) := Lib.hid (fndZ_some (by simpa using hlt) (by rw [List.getElem_map]; exact he) (fun j hj h1 => by rw [List.getElem_map]; exact hall j (by simpa using hj) h1))
        have hb1 : ((L[i].v.at_ : Int) == a) = true := by simpa using he
        clear hall he
        generalize (L[i].v.at_ : Int) = z at *
        go_wp2_with fail
        go_ret
        exact ⟨ret_int (by rw [HF.out]; rfl), by first | exact hB | exact hB.drew⟩
      · have HN : Hid (∀ j, (hj : j < L.length) → j < i + 1 → ¬ (L[j].v.at_ : Int) = a) := Lib.hid (fun j hj h1 => by
          by_cases hji : j = i
          · subst hji; exact he
          · exact hall j hj (by omega))
        have hb1 : ((L[i].v.at_ : Int) == a) = false := by simpa using he
        clear hall he
        generalize (L[i].v.at_ : Int) = z at *
        go_wp2_with fail
        go_roundw
        case rel => exact ⟨i + 1, by omega, by go_num, Lib.hid ⟨HN.out, by first | exact hB | exact hB.drew⟩⟩
        case measure => simp [vInt]; omega
    · have hil : ¬ (i : Int) < (L.length : Int) := by omega
      have HF : Hid (fndZ (L.map RowD.v) a = none) := Lib.hid (fndZ_none (fun j hj => by rw [List.getElem_map]; exact hall j (by simpa using hj) (Nat.lt_of_lt_of_le (by simpa using hj : j < L.length) (by omega))))
      clear hall
      go_wp2_with fail
      go_ret
      exact ⟨ret_int (by rw [HF.out]; rfl), hB⟩
set_option maxRecDepth 100000 in
set_option maxHeartbeats 4000000 in
theorem at10_any (l : List SubD) (A : Option Addr) (c : Nat) (id : Int) (w : World) (h : SubsAt w w.heap.size A l) (hl : l.length ≤ 1000) :
    Calls Tryz.prog 54 #[.slice A l.length c, .int .i64 id] w fun e w' => e = .returned (.int .i64 (atI (fndI (idsR l) id))) ∧ Below w.heap.size w w' := by
  have HH := Lib.hid h
  have hil2 : (idsR l).length = l.length := by simp [idsR]
  have HG : Hid (∀ j, (hj : j < l.length) → (hx : j < (idsR l).length) → (idsR l)[j] = l[j].v.id) := Lib.hid (fun j hj hx => by simp [idsR])
  have HIl := Lib.hid hil2
  clear h hil2
  go_enter Tryz.func54, Tryz.ntmps54
  go_wp2_with fail
  go_loopw [5] (fun ii wr => ∃ i : Nat, i ≤ l.length ∧ ii = .int .i64 i ∧ Hid ((∀ j, (hj : j < l.length) → j < i → ¬ l[j].v.id = id) ∧ Below w.heap.size w wr)) (fun ii _ => l.length - (vInt ii).toNat)
  case atStart => exact ⟨0, Nat.zero_le _, rfl, Lib.hid ⟨fun j _ h1 => by omega, Below.refl _ _⟩⟩
  case round =>
    obtain ⟨i, hi, rfl, hR⟩ := hrel
    obtain ⟨hall, hB⟩ := hR.out
    clear hR
    by_cases hlt : i < l.length
    · have hil : (i : Int) < (l.length : Int) := by omega
      obtain ⟨b, off, rfl, hbb, c0, c1, _⟩ := subs_at (HH.out.later hB) hlt
      by_cases he : l[i].v.id = id
      · have HF : Hid (fndI (idsR l) id = some i) := Lib.hid (fndI_some (by rw [HIl.out]; exact hlt) (by rw [HG.out i hlt]; exact he) (fun j hj h1 => by rw [HG.out j (by rw [HIl.out] at hj; exact hj)]; exact hall j (by rw [HIl.out] at hj; exact hj) h1))
        have hb1 : (l[i].v.id == id) = true := by simpa using he
        clear hall he
        generalize l[i] = z at *
        go_wp2_with fail
        go_ret
        exact ⟨ret_int (by rw [HF.out]; rfl), by first | exact hB | exact hB.drew⟩
      · have HN : Hid (∀ j, (hj : j < l.length) → j < i + 1 → ¬ l[j].v.id = id) := Lib.hid (fun j hj h1 => by
          by_cases hji : j = i
          · subst hji; exact he
          · exact hall j hj (by omega))
        have hb1 : (l[i].v.id == id) = false := by simpa using he
        clear hall he
        generalize l[i] = z at *
        go_wp2_with fail
        go_roundw
        case rel => exact ⟨i + 1, by omega, by go_num, Lib.hid ⟨HN.out, by first | exact hB | exact hB.drew⟩⟩
        case measure => simp [vInt]; omega
    · have hil : ¬ (i : Int) < (l.length : Int) := by omega
      have HF : Hid (fndI (idsR l) id = none) := Lib.hid (by
        unfold fndI
        rw [List.find?_eq_none]
        intro j hj
        rw [List.mem_range] at hj
        rw [getD_lt _ _ hj, HG.out j (by rw [HIl.out] at hj; exact hj)]
        simpa using hall j (by rw [HIl.out] at hj; exact hj) (by rw [HIl.out] at hj; omega))
      clear hall
      go_wp2_with fail
      go_ret
      exact ⟨ret_int (by rw [HF.out]; rfl), hB⟩
set_option maxRecDepth 100000 in
set_option maxHeartbeats 4000000 in
theorem checked10_any (columns : Int) (l : List SubD) (A : Option Addr) (c : Nat) (q : List QueD) (Q : Option Addr) (qc : Nat) (w : World) (h : SubsAt w w.heap.size A l) (hl : l.length ≤ 24) (hq : QuesAt w w.heap.size Q q) (hql : q.length ≤ 12) (hqw : ∀ x ∈ q, x.v.wheres.length ≤ 10) :
    Calls Tryz.prog 49 #[.int .i64 columns, .slice A l.length c, .slice Q q.length qc] w fun e w' => e = .returned (.int .i64 (if tabB columns (l.map SubD.v) = true then (if avlB columns q = true then 0 else 102) else 100)) ∧ Below w.heap.size w w' := by
  have HC := Lib.hid (check10_any columns l A c w h hl)
  cases ht : tabB columns (l.map SubD.v) with
  | false =>
    have hE : tabE columns (l.map SubD.v) = 100 := by unfold tabE; rw [ht]; rfl
    rw [hE] at HC
    clear h hq hqw ht hE
    go_enter Tryz.func49, Tryz.ntmps49
    go_wp2_with (go_at_call 57; (with_reducible refine (HC.out).mono ?_); rintro e w1 ⟨rfl, h1⟩)
    go_ret
    exact ⟨rfl, h1⟩
  | true =>
    have hE : tabE columns (l.map SubD.v) = 0 := by unfold tabE; rw [ht]; rfl
    have hcc := (ask_parts ht).1
    have HA := Lib.hid (fun (W' : World) (hb : Below w.heap.size w W') => audit10_any columns q Q qc W' (hq.later hb) (by omega) hqw (by omega))
    rw [hE] at HC
    cases ha : avlB columns q with
    | false =>
      rw [ha] at HA
      clear h hq hqw ht hE ha
      go_enter Tryz.func49, Tryz.ntmps49
      go_wp2_with (first
        | (go_at_call 57; (with_reducible refine (HC.out).mono ?_); rintro e w1 ⟨rfl, h1⟩)
        | (go_at_call 60; (with_reducible refine (HA.out _ h1).mono ?_); rintro e w2 ⟨rfl, h2⟩))
      go_ret
      exact ⟨rfl, h1.trans (h2.mono h1.size)⟩
    | true =>
      rw [ha] at HA
      clear h hq hqw ht hE ha
      go_enter Tryz.func49, Tryz.ntmps49
      go_wp2_with (first
        | (go_at_call 57; (with_reducible refine (HC.out).mono ?_); rintro e w1 ⟨rfl, h1⟩)
        | (go_at_call 60; (with_reducible refine (HA.out _ h1).mono ?_); rintro e w2 ⟨rfl, h2⟩))
      go_ret
      exact ⟨rfl, h1.trans (h2.mono h1.size)⟩
end Go.Proofs.YtbkekdbabkncfaaGreat

namespace Go.Proofs.YtbkekdbabkncfaaGreat
open Go.RowKit Go.Maps Det

def aloneB (cs : List Frc) (a n : Nat) : Bool := (List.range n).all fun i => decide (i = a) || decide ((cs.getD i default).n = 0)
theorem alone_no {cs : List Frc} {a n i : Nat} (hi : i < n) (ha : ¬ i = a) (hz : ¬ (cs.getD i default).n = 0) : aloneB cs a n = false := by
  unfold aloneB
  rw [List.all_eq_false]
  exact ⟨i, List.mem_range.2 hi, by rw [decide_eq_false ha, decide_eq_false hz]; decide⟩
theorem alone_yes {cs : List Frc} {a n : Nat} (h : ∀ i, i < n → i = a ∨ (cs.getD i default).n = 0) : aloneB cs a n = true := by
  unfold aloneB
  rw [List.all_eq_true]
  intro i hi
  rcases h i (List.mem_range.1 hi) with e | e
  · rw [decide_eq_true e]; rfl
  · rw [decide_eq_true e]; simp
set_option maxRecDepth 100000 in
set_option maxHeartbeats 4000000 in
theorem alone10_any (a : Nat) (cs : List Frc) (A : Option Addr) (c n : Nat) (w : World) (h : FrcAt w w.heap.size A cs) (hn : n ≤ cs.length) (hl : cs.length ≤ 1000) :
    Calls Tryz.prog 53 #[.agg #[.int .i64 a, .slice A cs.length c], .int .i64 n] w fun e w' => e = .returned (.bool (aloneB cs a n)) ∧ Below w.heap.size w w' := by
  have b1 := (Below.refl w.heap.size w).alloc (Nat.le_refl _) (.cells #[.int .i64 a, .slice A cs.length c] 98)
  have k1 := Lib.hid (Blk.new w #[.int .i64 a, .slice A cs.length c] 98)
  have HH := Lib.hid h
  have HB1 := Lib.hid b1
  clear h b1
  go_enter Tryz.func53, Tryz.ntmps53
  go_wp2_with fail
  generalize hW1 : w.alloc (.cells #[.int .i64 a, .slice A cs.length c] 98) = W1 at *
  clear hW1
  go_loopw [5] (fun ii wr => ∃ i : Nat, i ≤ n ∧ ii = .int .i64 i ∧ Hid ((∀ j, j < i → j = a ∨ (cs.getD j default).n = 0) ∧ Below W1.heap.size W1 wr)) (fun ii _ => n - (vInt ii).toNat)
  case atStart => exact ⟨0, Nat.zero_le _, rfl, Lib.hid ⟨fun j h1 => by omega, Below.refl _ _⟩⟩
  case round =>
    obtain ⟨i, hi, rfl, hR⟩ := hrel
    obtain ⟨hall, hB⟩ := hR.out
    clear hR
    have kc := (k1.out.below hB k1.out.lt).cell
    have hw := HB1.out.trans (hB.mono HB1.out.size)
    by_cases hlt : i < n
    · have hil : (i : Int) < (n : Int) := by omega
      have hilc : (i : Int) < (cs.length : Int) := by omega
      obtain ⟨b, off, rfl, hbb, c0, c1⟩ := frc_at (HH.out.later hw) (k := i) (by omega)
      have hgd := getD_lt cs default (by omega : i < cs.length)
      by_cases hia : i = a
      · have HN : Hid (∀ j, j < i + 1 → j = a ∨ (cs.getD j default).n = 0) := Lib.hid (fun j hj => by
          by_cases hji : j = i
          · subst hji; exact .inl hia
          · exact hall j (by omega))
        have hb1 : ((i : Int) != (a : Int)) = false := by rw [hia]; simp
        clear hall hia hgd
        generalize cs[i]'(by omega) = z at *
        go_wp2_with fail
        go_roundw
        case rel => exact ⟨i + 1, by omega, by go_num, Lib.hid ⟨HN.out, by first | exact hB | exact hB.drew⟩⟩
        case measure => simp [vInt]; omega
      · have hb1 : ((i : Int) != (a : Int)) = true := by
          have : ¬ (i : Int) = (a : Int) := by omega
          simpa using this
        by_cases hz : (cs[i]'(by omega)).n = 0
        · have HN : Hid (∀ j, j < i + 1 → j = a ∨ (cs.getD j default).n = 0) := Lib.hid (fun j hj => by
            by_cases hji : j = i
            · subst hji; exact .inr (by rw [hgd]; exact hz)
            · exact hall j (by omega))
          have hb2 : ((cs[i]'(by omega)).n != 0) = false := by simpa using hz
          clear hall hia hgd hz
          generalize cs[i]'(by omega) = z at *
          go_wp2_with fail
          go_roundw
          case rel => exact ⟨i + 1, by omega, by go_num, Lib.hid ⟨HN.out, by first | exact hB | exact hB.drew⟩⟩
          case measure => simp [vInt]; omega
        · have HN : Hid (aloneB cs a n = false) := Lib.hid (alone_no hlt hia (by rw [hgd]; exact hz))
          have hb2 : ((cs[i]'(by omega)).n != 0) = true := by simpa using hz
          clear hall hia hgd hz
          generalize cs[i]'(by omega) = z at *
          go_wp2_with fail
          go_ret
          exact ⟨ret_bool (by rw [HN.out]), by first | exact hw | exact hw.drew⟩
    · have hil : ¬ (i : Int) < (n : Int) := by omega
      have HN : Hid (aloneB cs a n = true) := Lib.hid (alone_yes fun j hj => hall j (by omega))
      clear hall
      go_wp2_with fail
      go_ret
      exact ⟨ret_bool (by rw [HN.out]), hw⟩
theorem gcdI_bd {a b B : Int} (ha : 0 ≤ a ∧ a ≤ B) (hb : 0 ≤ b ∧ b ≤ B) : 0 ≤ gcdI a b ∧ gcdI a b ≤ B := by
  by_cases h0 : b = 0
  · rw [h0, gcdI_zero]; omega
  · have := gcdI_le (a := a) h0
    omega
theorem gcdI_abs (a n : Int) : gcdI a (n.natAbs : Int) = gcdI a n := by
  unfold gcdI
  rw [Int.gcd_eq_natAbs_gcd_natAbs, Int.gcd_eq_natAbs_gcd_natAbs, Int.natAbs_natCast]
theorem clr_snoc (m : Int) (l : List Frc) (f : Frc) : clrL m (l ++ [f]) = clrL m l * (f.d / gcdI (clrL m l) f.d) := by unfold clrL; rw [List.foldl_append]; rfl
theorem clr_way {m d : Int} : m.tdiv (gcdI m d) * d = m * (d / gcdI m d) := by
  have h1 : gcdI m d ∣ m := by unfold gcdI; exact Int.gcd_dvd_left ..
  have h2 : gcdI m d ∣ d := by unfold gcdI; exact Int.gcd_dvd_right ..
  obtain ⟨u, hu⟩ := h1
  obtain ⟨v, hv⟩ := h2
  generalize gcdI m d = g at *
  by_cases hg : g = 0
  · subst hg
    rw [Int.zero_mul] at hu hv
    rw [hu, hv]; simp
  · have e1 : m.tdiv g = u := by rw [hu, Int.mul_tdiv_cancel_left _ hg]
    have e2 : d / g = v := by rw [hv, Int.mul_ediv_cancel_left _ hg]
    rw [e1, e2, hv, hu]
    grind
theorem gcdL_bd {l : List Int} {B : Int} (hB : 0 ≤ B) (h : ∀ x ∈ l, -B ≤ x ∧ x ≤ B) : ∀ i, i ≤ l.length → 0 ≤ gcdL (l.take i) ∧ gcdL (l.take i) ≤ B
  | 0, _ => ⟨Int.le_refl 0, hB⟩
  | i + 1, hi => by
    have ih := gcdL_bd hB h i (by omega)
    have hx := h _ (List.getElem_mem (by omega : i < l.length))
    rw [List.take_succ_eq_append_getElem (by omega), gcdL_snoc, ← gcdI_abs]
    exact gcdI_bd ih (by omega)
/-- What keeps the reckoning small. -/
structure NumOk (l : List Frc) : Prop where
  len : l.length ≤ 100
  fs : ∀ f ∈ l, (-1000000000 ≤ f.n ∧ f.n ≤ 1000000000) ∧ 1 ≤ f.d ∧ f.d ≤ 1000000000
  clr : ∀ i, i ≤ l.length → 1 ≤ clrL 1 (l.take i) ∧ clrL 1 (l.take i) ≤ 1000000000
  one : gcdL (mltL (clrL 1 l) l) = 1
set_option maxRecDepth 100000 in
set_option maxHeartbeats 8000000 in
theorem numbers10_any (l : List Frc) (A : Option Addr) (c : Nat) (w : World) (h : FrcAt w w.heap.size A l) (hn : NumOk l) :
    Calls Tryz.prog 55 #[.slice A l.length c] w fun e w' => ∃ A' c', e = .returned (.slice A' l.length c') ∧ Hid (w'.ownsRow w.heap.size 3 1 (.slice A' l.length c') l.length ((mltL (clrL 1 l) l).flatMap intC)) ∧ Below w.heap.size w w' := by
  obtain ⟨i4, hi4, hq0, hq1, hq2⟩ := info_parts intInfoW
  have HH := Lib.hid h
  have HN := Lib.hid hn
  have hll := hn.len
  clear h hn
  go_enter Tryz.func55, Tryz.ntmps55
  go_wp2_with fail
  go_loopw [3, 4] (fun dd ii wr => ∃ i : Nat, i ≤ l.length ∧ dd = .int .i64 (clrL 1 (l.take i)) ∧ ii = .int .i64 i ∧ Hid (Below w.heap.size w wr)) (fun _ ii _ => l.length - (vInt ii).toNat)
  case atStart => exact ⟨0, Nat.zero_le _, rfl, rfl, Lib.hid (Below.refl _ _)⟩
  case round =>
    obtain ⟨i, hi, rfl, rfl, hR⟩ := hrel
    have hB := hR.out
    clear hR
    by_cases hlt : i < l.length
    · have hil : (i : Int) < (l.length : Int) := by omega
      obtain ⟨b, off, rfl, hbb, c0, c1⟩ := frc_at (HH.out.later hB) hlt
      obtain ⟨⟨f1, f2⟩, f3, f4⟩ := HN.out.fs _ (List.getElem_mem hlt)
      obtain ⟨m1, m2⟩ := HN.out.clr i hi
      obtain ⟨m3, m4⟩ := HN.out.clr (i + 1) hlt
      have hsn : clrL 1 (l.take (i + 1)) = (clrL 1 (l.take i)).tdiv (gcdI (clrL 1 (l.take i)) l[i].d) * l[i].d := by rw [List.take_succ_eq_append_getElem hlt, clr_snoc, clr_way]
      rw [hsn] at m3 m4
      have HS := Lib.hid hsn
      have hgl := gcdI_le (a := clrL 1 (l.take i)) (b := l[i].d) (by omega)
      have HG := Lib.hid (gcd10_any (clrL 1 (l.take i)) l[i].d (by omega) (by omega))
      generalize clrL 1 (l.take i) = m at *
      generalize l[i] = f at *
      generalize gcdI m f.d = g at *
      have hg0 : ¬ g = 0 := by omega
      have hg1 : (g == 0) = false := by rw [beq_eq_false_iff_ne]; exact hg0
      have hqb : (m.tdiv g).natAbs ≤ m.natAbs := by rw [Int.natAbs_tdiv]; exact Nat.div_le_self _ _
      have hw1 : IntKind.i64.wrap (m.tdiv g) = m.tdiv g := IntWalk.i64_in _ (by omega)
      have hw2 : IntKind.i64.wrap (m.tdiv g * f.d) = m.tdiv g * f.d := IntWalk.i64_in _ (by omega)
      have D0 : Below wr.heap.size wr wr.drew := (Below.refl _ _).drew
      have SB : ∀ W', Below wr.heap.size wr W' → W'.cell? ⟨b, off + i * 2 + 1, none⟩ = some (.int .i64 f.d) := fun W' hW => (hW.cell (p := ⟨b, off + i * 2 + 1, none⟩) hbb).trans c1
      clear hsn hqb hgl m3 m4 c0 c1 f1 f2
      go_upto_region 5 with fail
      go_region_held3 (fun W' => W'.cell? ⟨b, off + i * 2 + 1, none⟩ = some (.int .i64 f.d)) (first | with_reducible exact SB _ D0 | with_reducible exact SB _ d2)
        (first
        | (go_at_call 83; (with_reducible refine (HG.out _).mono ?_); rintro e w2 ⟨rfl, h2⟩; have d2 := D0.trans h2))
      all_goals go_wp2_with fail
      all_goals go_roundw
      all_goals first
        | (simp [vInt]; omega; done)
        | exact ⟨i + 1, by omega, by rw [HS.out], by go_num, Lib.hid (hB.trans (d2.mono hB.size))⟩
    · have hil : ¬ (i : Int) < (l.length : Int) := by omega
      obtain rfl : i = l.length := by omega
      rw [List.take_length]
      have HB := Lib.hid hB
      have hd := HN.out.clr l.length (Nat.le_refl _)
      rw [List.take_length] at hd
      have HLen : Hid ((mltL (clrL 1 l) l).length = l.length) := Lib.hid (mlt_len _ _)
      have HGet : Hid (∀ i, (hi : i < l.length) → (hx : i < (mltL (clrL 1 l) l).length) → (mltL (clrL 1 l) l)[i] = (clrL 1 l).tdiv l[i].d * l[i].n) := Lib.hid (fun i hi hx => by simp [mltL])
      have HOne := Lib.hid HN.out.one
      generalize hmm : mltL (clrL 1 l) l = M at *
      generalize hdd : clrL 1 l = d at *
      have HMm := Lib.hid hmm
      have HDd := Lib.hid hdd
      have HMb : Hid (∀ x ∈ M, -1000000000000000000 ≤ x ∧ x ≤ 1000000000000000000) := Lib.hid (fun x hx => by
        obtain ⟨i, hi, rfl⟩ := List.mem_iff_getElem.1 hx
        have hil : i < l.length := by rw [HLen.out] at hi; exact hi
        rw [HGet.out i hil hi]
        obtain ⟨f12, f34⟩ := HN.out.fs _ (List.getElem_mem hil)
        have h2 : (d.tdiv l[i].d).natAbs ≤ d.natAbs := by rw [Int.natAbs_tdiv]; exact Nat.div_le_self _ _
        exact mul_bd (by omega) (by omega))
      have HGb := Lib.hid (fun i hi => gcdL_bd (l := M) (B := 1000000000000000000) (by omega) HMb.out i hi)
      clear hmm hB hdd
      have hown0 : Hid (wr.ownsRow wr.heap.size 3 1 (.slice none 0 0) 0 ((M.take 0).flatMap intC) ∧ Below w.heap.size w wr) := Lib.hid ⟨World.ownsRow_nil _ _ _ _, HB.out⟩
      generalize hWs : wr = ws at *
      clear hWs
      go_wp2_with fail
      go_loopw [5, 6, 7] (fun gg oo ii wr => ∃ (i : Nat) (A2 : Option Addr) (c2 : Nat), i ≤ l.length ∧ gg = .int .i64 (gcdL (M.take i)) ∧ oo = .slice A2 i c2 ∧ ii = .int .i64 i ∧ Hid (wr.ownsRow ws.heap.size 3 1 (.slice A2 i c2) i ((M.take i).flatMap intC) ∧ Below ws.heap.size ws wr)) (fun _ _ ii _ => l.length - (vInt ii).toNat)
      case atStart => exact ⟨0, none, 0, Nat.zero_le _, rfl, rfl, rfl, Lib.hid ⟨hown0.out.1, Below.refl _ _⟩⟩
      case round =>
        clear hown0
        obtain ⟨i, A2, c2, hi, rfl, rfl, rfl, hR⟩ := hrel
        obtain ⟨ho, hB⟩ := hR.out
        clear hR
        have hBw := HB.out.trans (hB.mono HB.out.size)
        by_cases hlt : i < l.length
        · have hil : (i : Int) < (l.length : Int) := by omega
          obtain ⟨b, off, rfl, hbb, c0, c1⟩ := frc_at (HH.out.later hBw) hlt
          obtain ⟨⟨f1, f2⟩, f3, f4⟩ := HN.out.fs _ (List.getElem_mem hlt)
          have hiM : i < M.length := by rw [HLen.out]; exact hlt
          have hMi := HGet.out i hlt hiM
          have hxb := HMb.out _ (List.getElem_mem hiM)
          have hgb := HGb.out i (by omega)
          have htk : (M.take (i + 1)).flatMap intC = (M.take i).flatMap intC ++ [.int .i64 (l[i].n * d.tdiv l[i].d)] := by rw [List.take_succ_eq_append_getElem hiM, List.flatMap_append, hMi, Int.mul_comm]; rfl
          have hgs : gcdL (M.take (i + 1)) = gcdI (gcdL (M.take i)) ((l[i].n * d.tdiv l[i].d).natAbs : Int) := by rw [List.take_succ_eq_append_getElem hiM, gcdL_snoc, hMi, gcdI_abs, Int.mul_comm]
          rw [hMi, Int.mul_comm] at hxb
          have HT := Lib.hid htk
          have HGs := Lib.hid hgs
          clear htk hgs hMi
          generalize gcdL (M.take i) = g at *
          generalize l[i] = f at *
          have hd0 : ¬ f.d = 0 := by omega
          have hd1 : (f.d == 0) = false := by rw [beq_eq_false_iff_ne]; exact hd0
          have hqb : (d.tdiv f.d).natAbs ≤ d.natAbs := by rw [Int.natAbs_tdiv]; exact Nat.div_le_self _ _
          have hw1 : IntKind.i64.wrap (d.tdiv f.d) = d.tdiv f.d := IntWalk.i64_in _ (by omega)
          have hw2 : IntKind.i64.wrap (f.n * d.tdiv f.d) = f.n * d.tdiv f.d := IntWalk.i64_in _ (by omega)
          have HAb := Lib.hid (abs10_any (f.n * d.tdiv f.d) (by omega))
          have HG := Lib.hid (gcd10_any g ((f.n * d.tdiv f.d).natAbs : Int) (by omega) (by omega))
          generalize hx : f.n * d.tdiv f.d = x at *
          have HX := Lib.hid hx
          have hbs := hB.size
          have D0 : Below wr.heap.size wr wr.drew := (Below.refl _ _).drew
          have bD := hB.trans (D0.mono hB.size)
          have HOa := Lib.hid ((own_below ho D0).alloc (.cells #[.int .i64 x] 3))
          clear hqb hxb hgb ho
          go_upto_region 11 with fail
          go_region
          go_wp2_with (first
            | (at_builtin; refine wpList_append_own_at _ rfl _ _ 32 rfl ws.heap.size 3 i4 _ 1 8 Tryz.underlying32 hi4 hq0 hq1 hq2 rfl (by decide) _ _ _ rfl HOa.out ⟨wr.heap.size, 0, none⟩ 1 1 [.int .i64 x] rfl rfl (fun j u hj => by rw [WideShapes.add_plain, Nat.zero_add]; exact ((Blk.new wr.drew #[.int .i64 x] 3).cell j).trans (by simpa using hj)) (flat_ones intC_one [x]) (by unfold maxLen; omega) (by omega) (by simp; omega) ?_; intro v' w4 hown4 hg4 _ hat4; obtain ⟨A3, c3, rfl⟩ := own_slice hown4; have b4 := (bD.alloc bD.size (.cells #[.int .i64 x] 3)).grown hg4 (by simp; omega) (fun k e => (HOa.out.lt k e).1); have HO4 := Lib.hid hown4)
            | (go_at_call 84; (with_reducible refine (HAb.out _).mono ?_); rintro e w5 ⟨rfl, rfl⟩)
            | (go_at_call 83; (with_reducible refine (HG.out _).mono ?_); rintro e w6 ⟨rfl, h6⟩))
          go_roundw
          case rel => exact ⟨i + 1, A3, c3, by omega, by rw [HGs.out], rfl, by go_num, Lib.hid ⟨by rw [HT.out]; exact own_below HO4.out h6, b4.trans (h6.mono b4.size)⟩⟩
          case measure => simp [vInt]; omega
        · have hil : ¬ (i : Int) < (l.length : Int) := by omega
          obtain rfl : i = l.length := by omega
          rw [List.take_of_length_le (by rw [HLen.out]; exact Nat.le_refl _)] at ho
          rw [List.take_of_length_le (by rw [HLen.out]; exact Nat.le_refl _), HOne.out]
          have HO := Lib.hid ho
          clear ho
          go_wp2_with fail
          go_loopw [9] (fun ii wq => ∃ i : Nat, i = 0 ∧ ii = .int .i64 i ∧ wq = wr) (fun ii _ => 1 - (vInt ii).toNat)
          case atStart => exact ⟨0, rfl, rfl, rfl⟩
          case round =>
            obtain ⟨i, rfl, rfl, rfl⟩ := hrel
            go_wp2_with fail
            all_goals go_ret
            all_goals exact ⟨A2, c2, rfl, Lib.hid (by rw [HDd.out, HMm.out]; exact own_lowQ HO.out HB.out.size), hBw⟩
end Go.Proofs.YtbkekdbabkncfaaGreat

namespace Go.Proofs.YtbkekdbabkncfaaGreat
open Go.RowKit Go.Maps Det

theorem alone_free {ol : List SubD} {qs : List QueD} (h8 : qs.length ≤ 8) {x : Led} (hx : x ∈ ledR ol qs) : aloneB (rowL x.e) x.at_ ol.length = !(freeB x) := by
  obtain ⟨rows, r1, _⟩ := led_all ol qs h8
  have hw := r1.ok.wf x hx
  have hz := frees (l := x) hw.1
  have hn : ∀ c, c < ol.length → (((rowL x.e).getD c default).n = 0 ↔ col ol.length x.e c = 0) := fun c hc => by
    rw [row_get hw.1 hc, ← val_zero (getD_ok hw.1.fo c), hw.1.fget hc]
  cases hf : freeB x with
  | false =>
    refine alone_yes fun i hi => ?_
    rcases Nat.lt_trichotomy i x.at_ with h | h | h
    · exact .inr ((hn i hi).2 (r1.fst x hx i h))
    · exact .inl h
    · exact .inr ((hn i hi).2 (hz.1 hf i h hi))
  | true =>
    cases hA : aloneB (rowL x.e) x.at_ ol.length with
    | false => rfl
    | true =>
      exfalso
      have h2 : freeB x = false := hz.2 fun c hc hcs => by
        unfold aloneB at hA
        rw [List.all_eq_true] at hA
        have h3 := hA c (List.mem_range.2 hcs)
        rw [decide_eq_false (by omega : ¬ c = x.at_), Bool.false_or, decide_eq_true_eq] at h3
        exact (hn c hcs).1 h3
      rw [hf] at h2
      cases h2
def folB (ls : List Led) (n a : Nat) : Bool := match fndL ls a with
  | none => false
  | some k => aloneB (rowL (ls.getD k ⟨⟨[], []⟩, 0⟩).e) (ls.getD k ⟨⟨[], []⟩, 0⟩).at_ n
theorem fol_iff {ol : List SubD} {qs : List QueD} (h8 : qs.length ≤ 8) (a : Nat) : folB (ledR ol qs) ol.length a = true ↔ FollowAt (ledR ol qs) a := by
  unfold folB
  cases hf : fndL (ledR ol qs) a with
  | none => exact ⟨fun h => by simp at h, fun ⟨l, hl, hla, _⟩ => absurd hla (fndL_no hf l hl)⟩
  | some k =>
    obtain ⟨hi, hat, hiff⟩ := follow_one (led_distinct h8) hf
    simp only [getD_lt _ _ hi]
    rw [hiff, alone_free h8 (List.getElem_mem hi)]
    cases freeB (ledR ol qs)[k] <;> simp
def dedQ (ol : List SubD) (ls : List Led) (i : Nat) : List Int := ((List.range i).filter fun a => folB ls ol.length a).map fun a => (ol.getD a default).v.id
theorem dedQ_succ (ol : List SubD) (ls : List Led) (i : Nat) : dedQ ol ls (i + 1) = dedQ ol ls i ++ if folB ls ol.length i = true then [(ol.getD i default).v.id] else [] := by
  unfold dedQ
  rw [List.range_succ, List.filter_append, List.map_append]
  congr 1
  by_cases h : folB ls ol.length i = true <;> simp [h]
theorem srt_strict {l ol : List SubD} (ho : SrtOf l ol) (hn : (l.map fun x => x.v.id).Nodup) : ∀ i j, (hi : i < ol.length) → (hj : j < ol.length) → i < j → ol[i].v.id < ol[j].v.id := fun i j hi hj hij => by
  have hno := srt_ids ho hn
  have h1 := List.pairwise_iff_getElem.1 ho.2 i j hi hj hij
  have h2 : ol[i].v.id ≠ ol[j].v.id := fun e => by
    have h3 : (ol.map fun x => x.v.id)[i]'(by simpa using hi) = (ol.map fun x => x.v.id)[j]'(by simpa using hj) := by simpa using e
    have := (List.getElem_inj hno).1 h3
    omega
  omega
theorem fnd_id {ol : List SubD} (hno : (ol.map fun x => x.v.id).Nodup) {a : Nat} (ha : a < ol.length) : fndI (idsR ol) ol[a].v.id = some a := by
  have hil : a < (idsR ol).length := by unfold idsR; simpa using ha
  have hic : (idsR ol)[a] = ol[a].v.id := by simp [idsR]
  refine fndI_some hil hic fun j hj hjc he => ?_
  have h3 : (idsR ol)[j] = (idsR ol)[a] := he.trans hic.symm
  have := (List.getElem_inj (show (idsR ol).Nodup from hno)).1 h3
  omega
theorem dedQ_all {l ol : List SubD} {qs : List QueD} (h8 : qs.length ≤ 8) (ho : SrtOf l ol) (hn : (l.map fun x => x.v.id).Nodup) : dedQ ol (ledR ol qs) ol.length = dedR ol qs := by
  have hno := srt_ids ho hn
  refine eq_sorted ?_ (ded_lt h8 hno) fun x => ?_
  · unfold dedQ
    rw [List.pairwise_map]
    refine ((List.pairwise_lt_range (n := ol.length)).filter _).imp_of_mem fun {a b} ha hb hab => ?_
    have ha := List.mem_range.1 (List.mem_filter.1 ha).1
    have hb := List.mem_range.1 (List.mem_filter.1 hb).1
    rw [getD_lt _ _ ha, getD_lt _ _ hb]
    exact srt_strict ho hn a b ha hb hab
  · unfold dedQ
    rw [List.mem_map]
    constructor
    · rintro ⟨a, ha, rfl⟩
      rw [List.mem_filter, List.mem_range] at ha
      rw [getD_lt _ _ ha.1]
      exact (ded_follow h8 hno (fnd_id hno ha.1)).2 ((fol_iff h8 a).1 ha.2)
    · intro hx
      obtain ⟨a, ha, hax, _⟩ := (ded_iff h8).1 hx
      have hx2 : ol[a].v.id = x := by
        rw [← hax, getD_lt _ _ (by unfold idsR; simpa using ha)]
        simp [idsR]
      rw [← hx2] at hx
      exact ⟨a, List.mem_filter.2 ⟨List.mem_range.2 ha, (fol_iff h8 a).2 ((ded_follow h8 hno (fnd_id hno ha)).1 hx)⟩, by rw [getD_lt _ _ ha]; exact hx2⟩
/-! The same values lead to the same. -/
theorem ask_congr (q : Que) {ol ol' : List SubD} (h : ol.map SubD.v = ol'.map SubD.v) : askL q ol = askL q ol' := by
  have e : ∀ l : List SubD, askL q l = (l.map SubD.v).map fun s => askB s q := fun l => by unfold askL; rw [List.map_map]; rfl
  rw [e, e, h]
theorem eqn_congr {ol ol' : List SubD} (h : ol.map SubD.v = ol'.map SubD.v) (m : Nat) : ∀ (qs : List Que) (k : Nat), eqnL ol m k qs = eqnL ol' m k qs
  | [], _ => rfl
  | q :: r, k => by
    have hl : ol.length = ol'.length := by simpa using congrArg List.length h
    simp only [eqnL]
    rw [ask_congr q h, hl, eqn_congr h m r (k + 1)]
theorem led_congr {ol ol' : List SubD} {qs qs' : List QueD} (h : ol.map SubD.v = ol'.map SubD.v) (hq : qs.map QueD.v = qs'.map QueD.v) : ledR ol qs = ledR ol' qs' ∧ idsR ol = idsR ol' := by
  have hl : qs.length = qs'.length := by simpa using congrArg List.length hq
  refine ⟨?_, ?_⟩
  · unfold ledR
    rw [hq, hl, eqn_congr h]
  · have e : ∀ l : List SubD, idsR l = (l.map SubD.v).map Sub.id := fun l => by unfold idsR; rw [List.map_map]; rfl
    rw [e, e, h]
theorem srt_congr {l tl ol ol' : List SubD} (ho : SrtOf l ol) (ho' : SrtOf tl ol') (hv : tl.map SubD.v = l.map SubD.v) (hn : (l.map fun x => x.v.id).Nodup) : ol'.map SubD.v = ol.map SubD.v := by
  have hp : (ol'.map SubD.v).Perm (ol.map SubD.v) := (ho'.1.map _).trans ((by rw [hv]; exact (ho.1.map SubD.v).symm))
  have hs : ∀ {a b : List SubD}, SrtOf a b → (b.map SubD.v).Pairwise (fun x y => x.id ≤ y.id) := fun h => by rw [List.pairwise_map]; exact h.2
  refine List.Perm.eq_of_pairwise (fun x y hx hy h3 h4 => ?_) (hs ho') (hs ho) hp
  have hxl := (hp.mem_iff.1 hx)
  obtain ⟨i, hi, rfl⟩ := List.mem_iff_getElem.1 hxl
  obtain ⟨j, hj, rfl⟩ := List.mem_iff_getElem.1 hy
  have he : (ol.map SubD.v)[i].id = (ol.map SubD.v)[j].id := by omega
  have hno := srt_ids ho hn
  have h5 : (ol.map fun x => x.v.id)[i]'(by simpa using hi) = (ol.map fun x => x.v.id)[j]'(by simpa using hj) := by simpa using he
  have := (List.getElem_inj hno).1 h5
  subst this; rfl
/-! The numbers of How. -/
theorem clr_one (ps : List Frc) : clrL 1 (ps ++ [⟨1, 1⟩]) = clrL 1 ps := by
  rw [clr_snoc]
  have h : gcdI (clrL 1 ps) 1 = 1 := by unfold gcdI; simp
  show clrL 1 ps * (1 / gcdI (clrL 1 ps) 1) = _
  rw [h]; simp
theorem mlt_one (m : Int) (ps : List Frc) : mltL m (ps ++ [⟨1, 1⟩]) = mltL m ps ++ [m] := by
  unfold mltL
  rw [List.map_append]
  simp
theorem num_ok {E : Int} (hE : E ≠ 0) (hB : E.natAbs ≤ 40320) {l : List Frc} (h : AllOver E l) (hl : l.length ≤ 100) (h1 : gcdL (mltL (clrL 1 l) l) = 1) : NumOk l := by
  refine ⟨hl, fun f hf => ?_, fun i hi => ?_, h1⟩
  · have h2 := over_dvd (h f hf).1 (h f hf).2 hE
    have h3 := Nat.le_of_dvd (by omega) (Int.natAbs_dvd_natAbs.2 h2.1)
    have h4 := (h f hf).1.1
    omega
  · obtain ⟨_, i2, i3, _, _, _⟩ := all_clr hE hB (l := l.take i) (fun f hf => h f (List.mem_of_mem_take hf))
    have h3 := Nat.le_of_dvd (by omega) (Int.natAbs_dvd_natAbs.2 i3)
    omega
theorem how_num {ol : List SubD} {qs : List QueD} (h8 : qs.length ≤ 8) {z : Led} (hz : z ∈ ledR ol qs) : NumOk (z.e.ps ++ [⟨1, 1⟩]) ∧ z.e.ps.length = qs.length ∧ z.e.fs.length = ol.length := by
  obtain ⟨_, hok, hl8⟩ := led_ok ol qs h8
  obtain ⟨E, hE, hB, hO⟩ := hok.whole hl8
  have hwf := hok.wf z hz
  have hao := (col_over hwf.1 (hO z hz)).2
  obtain ⟨_, i2, i3, i4, _, _⟩ := all_clr hE hB hao
  have hA : AllOver E (z.e.ps ++ [⟨1, 1⟩]) := fun f hf => by
    rw [List.mem_append, List.mem_singleton] at hf
    rcases hf with hf | rfl
    · exact hao f hf
    · refine ⟨(intF_ok 1).1, ?_⟩
      have : val (⟨1, 1⟩ : Frc) = 1 := (intF_ok 1).2
      unfold Over
      rw [this, Rat.one_mul]
      exact ⟨E, rfl, hB⟩
  refine ⟨num_ok hE hB hA (by rw [List.length_append, hwf.1.pl]; simp; omega) ?_, hwf.1.pl, hwf.1.fl⟩
  rw [clr_one, mlt_one]
  have hg := gcdL_dvd (mltL (clrL 1 z.e.ps) z.e.ps ++ [clrL 1 z.e.ps]) 0
  have hg0 := gcdL_nonneg (mltL (clrL 1 z.e.ps) z.e.ps ++ [clrL 1 z.e.ps]) 0 (Int.le_refl 0)
  have hgd : gcdL (mltL (clrL 1 z.e.ps) z.e.ps ++ [clrL 1 z.e.ps]) ∣ clrL 1 z.e.ps := hg.2 _ (by simp)
  refine how_prime rfl hwf.1.po i4 i2 ?_ hgd fun y hy => hg.2 y (by simp [hy])
  have : gcdL (mltL (clrL 1 z.e.ps) z.e.ps ++ [clrL 1 z.e.ps]) ≠ 0 := fun e => by
    rw [e] at hgd
    have := Int.zero_dvd.1 hgd
    omega
  have h2 : 0 ≤ gcdL (mltL (clrL 1 z.e.ps) z.e.ps ++ [clrL 1 z.e.ps]) := hg0
  omega
end Go.Proofs.YtbkekdbabkncfaaGreat

namespace Go.Proofs.YtbkekdbabkncfaaGreat
open Go.RowKit Go.Maps Det

section
variable {columns : Int} {l : List SubD} {A : Option Addr} {c : Nat} {q : List QueD} {Q : Option Addr} {qc : Nat} {w : World}
/-- A table in order, and the rows of an audit. -/
theorem Rdy.order (h : Rdy w columns l A q Q) {w2 : World} (hb : Below w.heap.size w w2) {A2 : Option Addr} {ol : List SubD} (hO : ol.Perm l ∧ ol.Pairwise (fun x y => x.v.id ≤ y.v.id) ∧ SubsAt w2 w2.heap.size A2 ol) : Rdy w2 columns ol A2 q Q :=
  ⟨hO.2.2, fun x hx => h.vals x (hO.1.mem_iff.1 hx), tab_perm hO.1 h.tab, h.que.later hb, h.whe, h.avl⟩
theorem Rdy.rows (h : Rdy w columns l A q Q) : Calls Tryz.prog 51 #[.slice A l.length c, .slice Q q.length qc] w fun e w' => ∃ R c Rs, e = .returned (.slice R (List.length Rs) c) ∧ Hid (RowsAt w' R Rs) ∧ Rs.map RowD.v = ledR l q ∧ Below w.heap.size w w' :=
  (solve10_any columns l A c q Q qc w h).mono fun e w' ⟨R, c, Rs, h1, h2, h3, h4⟩ => ⟨R, c, Rs, h1, Lib.hid h2.out.at, by rw [h3, refK_led h.q8], h4⟩
theorem Rdy.checked (h : Rdy w columns l A q Q) (h10 : ∀ x ∈ q, x.v.wheres.length ≤ 10) : Calls Tryz.prog 49 #[.int .i64 columns, .slice A l.length c, .slice Q q.length qc] w fun e w' => e = .returned (.int .i64 0) ∧ Below w.heap.size w w' := by
  have := checked10_any columns l A c q Q qc w h.sub (by have := h.l16; omega) h.que (by have := h.q8; omega) h10
  rw [h.tab, h.avl] at this
  exact this
theorem Rdy.ordered (h : Rdy w columns l A q Q) (w1 : World) (hb : Below w.heap.size w w1) : Calls Tryz.prog 50 #[.slice A l.length c] w1 (OrdS w1 l) := ordered10_any l A c w1 (h.sub.later hb) (by have := h.l16; omega)
end
def RDedP (w : World) (l : List SubD) (q : List QueD) (e : Ending) (w' : World) : Prop := ∃ ol A' c', Hid (SrtOf l ol) ∧ e = .returned (.tuple #[.slice A' (dedR ol q).length c', .int .i64 0]) ∧ Hid (IntsAt w' w'.heap.size A' (dedR ol q)) ∧ Below w.heap.size w w'
set_option maxRecDepth 100000 in
set_option maxHeartbeats 8000000 in
theorem refDed_ok (columns : Int) (l : List SubD) (A : Option Addr) (c : Nat) (q : List QueD) (Q : Option Addr) (qc : Nat) (w : World) (h : Rdy w columns l A q Q) (h10 : ∀ x ∈ q, x.v.wheres.length ≤ 10) :
    Calls Tryz.prog 26 #[.int .i64 columns, .slice A l.length c, .slice Q q.length qc] w (RDedP w l q) := by
  obtain ⟨i4, hi4, hq0, hq1, hq2⟩ := info_parts intInfoW
  have HCk := Lib.hid (h.checked (c := c) (qc := qc) h10)
  have HOr := Lib.hid (fun w1 hb => h.ordered (c := c) w1 hb)
  have HRo := Lib.hid (fun (w2 : World) (hb : Below w.heap.size w w2) (A2 : Option Addr) (c2 : Nat) (ol : List SubD) hO => (h.order hb (A2 := A2) (ol := ol) hO).rows (c := c2) (qc := qc))
  have hl16 := h.l16
  have HT := Lib.hid (tab_ids h.tab)
  have H8 := Lib.hid h.q8
  have hq8 := h.q8
  clear h h10
  go_enter Tryz.func26, Tryz.ntmps26
  go_wp2_with (first
    | (go_at_call 49; (with_reducible refine (HCk.out).mono ?_); rintro e w1 ⟨rfl, h1⟩)
    | (go_at_call 50; (with_reducible refine (HOr.out _ h1).mono ?_); rintro e w2 ⟨A2, c2, ol, rfl, hO, h2⟩; have b2 := h1.trans (h2.mono h1.size); have hol : ol.length = l.length := hO.out.1.length_eq; have HSv := Lib.hid (HRo.out w2 b2 A2 c2 ol hO.out); rw [hol] at HSv)
    | (go_at_call 51; (with_reducible refine (HSv.out).mono ?_); rintro e w3 ⟨R, cR, Rs, rfl, hRo, hRv, h3⟩; have b3 := b2.trans (h3.mono b2.size)))
  have HS : Hid (SrtOf l ol) := Lib.hid ⟨hO.out.1, hO.out.2.1⟩
  have HOs := Lib.hid (hO.out.2.2.later h3)
  have HRv := Lib.hid hRv
  have HAf := Lib.hid (fun x (hx : x ∈ ledR ol q) => how_num H8.out hx)
  have hRl : Rs.length ≤ 8 := by
    have h5 := (led_ok ol q H8.out).2.2
    rw [← hRv, List.length_map] at h5
    exact h5
  clear HSv hRv HCk HOr HRo h1 h2 h3 b2 hO
  have hown0 : Hid (w3.ownsRow w3.heap.size 3 1 (.slice none 0 0) 0 ((dedQ ol (ledR ol q) 0).flatMap intC)) := Lib.hid (World.ownsRow_nil _ _ _ _)
  go_loopw [10, 11] (fun oo ii wr => ∃ (i : Nat) (n : Nat) (A3 : Option Addr) (c3 : Nat), i ≤ l.length ∧ n ≤ i ∧ oo = .slice A3 n c3 ∧ ii = .int .i64 i ∧ Hid (n = (dedQ ol (ledR ol q) i).length ∧ wr.ownsRow w3.heap.size 3 1 (.slice A3 n c3) n ((dedQ ol (ledR ol q) i).flatMap intC) ∧ Below w3.heap.size w3 wr)) (fun _ ii _ => l.length - (vInt ii).toNat)
  case atStart => exact ⟨0, 0, none, 0, Nat.zero_le _, Nat.le_refl _, rfl, rfl, Lib.hid ⟨rfl, hown0.out, Below.refl _ _⟩⟩
  case round =>
    clear hown0
    obtain ⟨i, n, A3, c3, hi, hni, rfl, rfl, hR⟩ := hrel
    obtain ⟨hn, ho, hB⟩ := hR.out
    clear hR
    have bw := b3.trans (hB.mono b3.size)
    have hbs := hB.size
    by_cases hlt : i < l.length
    · have hil : (i : Int) < (l.length : Int) := by omega
      have HLd := Lib.hid (leads10_any Rs R cR (i : Int) wr (hRo.out.later hB) (by omega))
      rw [HRv.out, fndZ_nat] at HLd
      have hsu := dedQ_succ ol (ledR ol q) i
      cases hf : fndL (ledR ol q) i with
      | none =>
        rw [hf] at HLd
        have hfo : folB (ledR ol q) ol.length i = false := by unfold folB; rw [hf]
        rw [hfo, if_neg (by decide), List.append_nil] at hsu
        have hat : atI none = -1 := rfl
        rw [hat] at HLd
        have HN := Lib.hid (⟨by rw [hsu]; exact hn, by rw [hsu]; exact ho⟩ : n = (dedQ ol (ledR ol q) (i + 1)).length ∧ wr.ownsRow w3.heap.size 3 1 (.slice A3 n c3) n ((dedQ ol (ledR ol q) (i + 1)).flatMap intC))
        clear hn ho hsu hfo hf
        go_wp2_with (go_at_call 52; (with_reducible refine (HLd.out).mono ?_); rintro e w5 ⟨rfl, h5⟩)
        go_roundw
        case rel => exact ⟨i + 1, n, A3, c3, by omega, by omega, rfl, by go_num, Lib.hid ⟨HN.out.1, own_below HN.out.2 h5, hB.trans (h5.mono hB.size)⟩⟩
        case measure => simp [vInt]; omega
      | some k =>
        rw [hf] at HLd
        have hat : atI (some k) = (k : Int) := rfl
        rw [hat] at HLd
        have hio : i < ol.length := by omega
        obtain ⟨hkl, hka⟩ := fndL_at hf
        have hkR : k < Rs.length := by rw [← HRv.out] at hkl; simpa using hkl
        have hkv : Rs[k].v = (ledR ol q)[k] := by simp only [← HRv.out, List.getElem_map]
        have hfo : folB (ledR ol q) ol.length i = aloneB (rowL Rs[k].v.e) Rs[k].v.at_ ol.length := by
          unfold folB
          rw [hf]
          simp only [getD_lt _ _ hkl]
          rw [hkv]
        have hnm := HAf.out _ (List.getElem_mem hkl)
        rw [← hkv] at hnm
        have hrl : (rowL Rs[k].v.e).length = l.length + q.length := by unfold rowL; rw [List.length_append, hnm.2.1, hnm.2.2, hol]
        have hkI : (k : Int) < (Rs.length : Int) := by omega
        have hk0 : ¬ (k : Int) < 0 := by omega
        have hk1 : (0 : Int) ≤ (k : Int) := by omega
        have hkd : decide ((0 : Int) ≤ (k : Int)) = true := decide_eq_true hk1
        have HRA := Lib.hid (fun (W' : World) (hb : Below wr.heap.size wr W') => row_at (hRo.out.later (hB.trans (hb.mono hB.size))) hkR)
        have HAl := Lib.hid (fun (W' : World) (hb : Below wr.heap.size wr W') => alone10_any Rs[k].v.at_ (rowL Rs[k].v.e) Rs[k].A Rs[k].c ol.length W' ((hRo.out.later (hB.trans (hb.mono hB.size))).each _ (List.getElem_mem hkR)) (by omega) (by omega))
        rw [← hfo, hol, hrl] at HAl
        rw [hrl] at HRA
        obtain ⟨b9, o9, rfl, _⟩ := HRA.out wr (Below.refl _ _)
        obtain ⟨b8, o8, rfl, hb8, s0, s1, _⟩ := subs_at (HOs.out.later hB) hio
        have HRC : Hid (∀ W', Below wr.heap.size wr W' → W'.cell? ⟨b9, o9 + k * 2, none⟩ = some (.int .i64 Rs[k].v.at_) ∧ W'.cell? ⟨b9, o9 + k * 2 + 1, none⟩ = some (.slice Rs[k].A (l.length + q.length) Rs[k].c)) := Lib.hid (fun W' hb => by
          obtain ⟨b7, o7, hA7, _, x0, x1⟩ := HRA.out W' hb
          obtain ⟨rfl, rfl⟩ : b9 = b7 ∧ o9 = o7 := by simpa using hA7
          exact ⟨x0, x1⟩)
        rw [getD_lt _ _ hio] at hsu
        clear hfo hkv hnm hrl HRA hf hkl hka
        generalize Rs[k] = z at *
        generalize ol[i]'hio = s at *
        rw [hol] at hsu
        have hb8s := hb8
        have HO := Lib.hid ho
        have HNn := Lib.hid hn
        clear ho hn
        cases hfb : folB (ledR ol q) l.length i with
        | false =>
          rw [hfb] at HAl hsu
          rw [if_neg (by decide), List.append_nil] at hsu
          have HSu := Lib.hid hsu
          clear hsu
          go_wp2_with (first
            | (go_at_call 52; (with_reducible refine (HLd.out).mono ?_); rintro e w5 ⟨rfl, h5⟩; obtain ⟨x0, x1⟩ := HRC.out w5 h5)
            | (go_at_call 53; (with_reducible refine (HAl.out _ h5).mono ?_); rintro e w6 ⟨rfl, h6⟩; have h56 := h5.trans (h6.mono h5.size)))
          go_roundw
          case rel => exact ⟨i + 1, n, A3, c3, by omega, by omega, rfl, by go_num, Lib.hid ⟨by rw [HSu.out]; exact HNn.out, by rw [HSu.out]; exact own_below HO.out h56, hB.trans (h56.mono hB.size)⟩⟩
          case measure => simp [vInt]; omega
        | true =>
          rw [hfb] at HAl hsu
          rw [if_pos rfl] at hsu
          have HSu := Lib.hid hsu
          clear hsu
          go_wp2_with (first
            | (go_at_call 52; (with_reducible refine (HLd.out).mono ?_); rintro e w5 ⟨rfl, h5⟩; obtain ⟨x0, x1⟩ := HRC.out w5 h5)
            | (go_at_call 53; (with_reducible refine (HAl.out _ h5).mono ?_); rintro e w6 ⟨rfl, h6⟩; have h56 := h5.trans (h6.mono h5.size); have s06 := (h56.cell (p := ⟨b8, o8 + i * 2, none⟩) hb8).trans s0; have b56 := hB.trans (h56.mono hB.size); have b56s := b56.size; have HO6 := Lib.hid ((own_below HO.out h56).alloc (.cells #[.int .i64 s.v.id] 3)))
            | (at_builtin; refine wpList_append_own_at _ rfl _ _ 32 rfl w3.heap.size 3 i4 _ 1 8 Tryz.underlying32 hi4 hq0 hq1 hq2 rfl (by decide) _ _ _ rfl HO6.out ⟨w6.heap.size, 0, none⟩ 1 1 [.int .i64 s.v.id] rfl rfl (fun j u hj => by rw [WideShapes.add_plain, Nat.zero_add]; exact ((Blk.new w6 #[.int .i64 s.v.id] 3).cell j).trans (by simpa using hj)) (flat_ones intC_one [s.v.id]) (by unfold maxLen; omega) (by omega) (by simp; omega) ?_; intro v' w7 hown7 hg7 _ hat7; obtain ⟨A4, c4, rfl⟩ := own_slice hown7; have b7 := (b56.alloc b56.size (.cells #[.int .i64 s.v.id] 3)).grown hg7 (by simp; omega) (fun k e => (HO6.out.lt k e).1); have HO7 := Lib.hid hown7))
          go_roundw
          case rel => exact ⟨i + 1, n + 1, A4, c4, by omega, by omega, rfl, by go_num, Lib.hid ⟨by rw [HSu.out, List.length_append, ← HNn.out]; rfl, by rw [HSu.out, List.flatMap_append]; exact HO7.out, b7⟩⟩
          case measure => simp [vInt]; omega
    · have hil : ¬ (i : Int) < (l.length : Int) := by omega
      obtain rfl : i = l.length := by omega
      have hda : dedQ ol (ledR ol q) l.length = dedR ol q := by rw [← hol]; exact dedQ_all H8.out HS.out HT.out
      rw [hda] at hn ho
      have HO := Lib.hid ho
      have HNn := Lib.hid hn
      clear ho hn hda
      go_wp2_with fail
      refine bodyPost_ret (v := .tuple #[.slice A3 n c3, .int .i64 0]) ?hres rfl ?hpost
      case hres => simp [results, Tryz.results26, go_sem]
      case hpost =>
        refine ⟨ol, A3, c3, HS, ?_, Lib.hid (Flat.of_own (c := c3) intC_len (by decide) (by rw [← HNn.out]; exact HO.out)), bw⟩
        rw [← HNn.out]
end Go.Proofs.YtbkekdbabkncfaaGreat

namespace Go.Proofs.YtbkekdbabkncfaaGreat
open Go.RowKit Go.Maps Det

def RHowP (w : World) (l : List SubD) (q : List QueD) (id : Int) (e : Ending) (w' : World) : Prop := ∃ ol, Hid (SrtOf l ol) ∧ Below w.heap.size w w' ∧ ((howR ol q id = none ∧ e = .returned (.tuple #[.slice none 0 0, .int .i64 0, .int .i64 6])) ∨
  ∃ x A' c', howR ol q id = some x ∧ e = .returned (.tuple #[.slice A' (mltL (clrL 1 x.e.ps) x.e.ps).length c', .int .i64 (clrL 1 x.e.ps), .int .i64 0]) ∧ Hid (IntsAt w' w'.heap.size A' (mltL (clrL 1 x.e.ps) x.e.ps)))
theorem cell_zero {w : World} {B : Nat} {A : Option Addr} {l : List Int} (h : IntsAt w B A l) {k : Nat} (hk : k < l.length) : ∃ b off, A = some ⟨b, off, none⟩ ∧ b < B ∧ w.cell? ⟨b, off + k, none⟩ = some (.int .i64 l[k]) := ints_at h hk
set_option maxRecDepth 100000 in
set_option maxHeartbeats 8000000 in
theorem refHow_ok (columns : Int) (l : List SubD) (A : Option Addr) (c : Nat) (q : List QueD) (Q : Option Addr) (qc : Nat) (id : Int) (w : World) (h : Rdy w columns l A q Q) (h10 : ∀ x ∈ q, x.v.wheres.length ≤ 10) :
    Calls Tryz.prog 27 #[.int .i64 columns, .slice A l.length c, .slice Q q.length qc, .int .i64 id] w (RHowP w l q id) := by
  obtain ⟨i4, hi4, fq0, fq1, fq2⟩ := info_parts frac10Info
  have HCk := Lib.hid (h.checked (c := c) (qc := qc) h10)
  have HOr := Lib.hid (fun w1 hb => h.ordered (c := c) w1 hb)
  have HRo := Lib.hid (fun (w2 : World) (hb : Below w.heap.size w w2) (A2 : Option Addr) (c2 : Nat) (ol : List SubD) hO => (h.order hb (A2 := A2) (ol := ol) hO).rows (c := c2) (qc := qc))
  have hl16 := h.l16
  have hq8 := h.q8
  have H8 := Lib.hid h.q8
  clear h h10
  go_enter Tryz.func27, Tryz.ntmps27
  go_upto_region 6 with (first
    | (go_at_call 49; (with_reducible refine (HCk.out).mono ?_); rintro e w1 ⟨rfl, h1⟩)
    | (go_at_call 50; (with_reducible refine (HOr.out _ h1).mono ?_); rintro e w2 ⟨A2, c2, ol, rfl, hO, h2⟩; have b2 := h1.trans (h2.mono h1.size); have hol : ol.length = l.length := hO.out.1.length_eq; have HSv := Lib.hid (HRo.out w2 b2 A2 c2 ol hO.out); rw [hol] at HSv)
    | (go_at_call 51; (with_reducible refine (HSv.out).mono ?_); rintro e w3 ⟨R, cR, Rs, rfl, hRo, hRv, h3⟩; have b3 := b2.trans (h3.mono b2.size)))
  have HS : Hid (SrtOf l ol) := Lib.hid ⟨hO.out.1, hO.out.2.1⟩
  have HOs := Lib.hid (hO.out.2.2.later h3)
  have HRv := Lib.hid hRv
  have HAf := Lib.hid (fun x (hx : x ∈ ledR ol q) => how_num H8.out hx)
  have HFr := Lib.hid (fun x (hx : x ∈ ledR ol q) => alone_free H8.out hx)
  have hRl : Rs.length ≤ 8 := by
    have h5 := (led_ok ol q H8.out).2.2
    rw [← hRv, List.length_map] at h5
    exact h5
  have HAt := Lib.hid (at10_any ol A2 c2 id w3 HOs.out (by omega))
  rw [hol] at HAt
  have HB3 := Lib.hid b3
  clear HSv hRv HCk HOr HRo h1 h2 h3 b2 hO b3
  cases hfi : fndI (idsR ol) id with
  | none =>
    rw [hfi] at HAt
    have hat : atI none = -1 := rfl
    rw [hat] at HAt
    have HN : Hid (howR ol q id = none) := Lib.hid (by unfold howR; rw [hfi]; rfl)
    have HLd := Lib.hid (fun (W' : World) (hb : Below w3.heap.size w3 W') => leads10_any Rs R cR (-1) W' (hRo.out.later hb) (by omega))
    rw [fndZ_neg, hat] at HLd
    clear hfi
    go_wp2_with (first
      | (go_at_call 54; (with_reducible refine (HAt.out).mono ?_); rintro e w4 ⟨rfl, h4⟩)
      | (go_at_call 52; (with_reducible refine (HLd.out _ h4).mono ?_); rintro e w5 ⟨rfl, h5⟩; have b5 := HB3.out.trans ((h4.trans (h5.mono h4.size)).mono HB3.out.size)))
    refine bodyPost_ret (v := .tuple #[.slice none 0 0, .int .i64 0, .int .i64 6]) ?hres rfl ?hpost
    case hres => simp [results, Tryz.results27, go_sem]
    case hpost => exact ⟨ol, HS, b5, .inl ⟨HN.out, rfl⟩⟩
  | some a =>
    rw [hfi] at HAt
    have hat : atI (some a) = (a : Int) := rfl
    rw [hat] at HAt
    have hal : a < ol.length := by have := fndI_lt hfi; unfold idsR at this; simpa using this
    have HLd := Lib.hid (fun (W' : World) (hb : Below w3.heap.size w3 W') => leads10_any Rs R cR (a : Int) W' (hRo.out.later hb) (by omega))
    rw [HRv.out, fndZ_nat] at HLd
    have hhr : howR ol q id = howE (ledR ol q) a := by unfold howR; rw [hfi]; rfl
    have ha0 : ¬ (a : Int) < 0 := by omega
    cases hf : fndL (ledR ol q) a with
    | none =>
      rw [hf] at HLd
      have hat2 : atI none = -1 := rfl
      rw [hat2] at HLd
      have HN : Hid (howR ol q id = none) := Lib.hid (by rw [hhr]; unfold howE; rw [hf])
      clear hfi hf hhr
      go_wp2_with (first
        | (go_at_call 54; (with_reducible refine (HAt.out).mono ?_); rintro e w4 ⟨rfl, h4⟩)
        | (go_at_call 52; (with_reducible refine (HLd.out _ h4).mono ?_); rintro e w5 ⟨rfl, h5⟩; have b5 := HB3.out.trans ((h4.trans (h5.mono h4.size)).mono HB3.out.size)))
      refine bodyPost_ret (v := .tuple #[.slice none 0 0, .int .i64 0, .int .i64 6]) ?hres rfl ?hpost
      case hres => simp [results, Tryz.results27, go_sem]
      case hpost => exact ⟨ol, HS, b5, .inl ⟨HN.out, rfl⟩⟩
    | some k =>
      rw [hf] at HLd
      have hat2 : atI (some k) = (k : Int) := rfl
      rw [hat2] at HLd
      obtain ⟨hkl, hka⟩ := fndL_at hf
      have hkR : k < Rs.length := by rw [← HRv.out] at hkl; simpa using hkl
      have hkv : Rs[k].v = (ledR ol q)[k] := by simp only [← HRv.out, List.getElem_map]
      have hnm := HAf.out _ (List.getElem_mem hkl)
      have hfr := HFr.out _ (List.getElem_mem hkl)
      have hhe : howE (ledR ol q) a = if (freeB (ledR ol q)[k]) = true then none else some (ledR ol q)[k] := by
        unfold howE
        rw [hf]
        simp only [getD_lt _ _ hkl]
        rfl
      rw [← hkv] at hnm hfr hhe
      have hrl : (rowL Rs[k].v.e).length = l.length + q.length := by unfold rowL; rw [List.length_append, hnm.2.1, hnm.2.2, hol]
      have hkI : (k : Int) < (Rs.length : Int) := by omega
      have hk0 : ¬ (k : Int) < 0 := by omega
      have HRA := Lib.hid (fun (W' : World) (hb : Below w3.heap.size w3 W') => row_at (hRo.out.later hb) hkR)
      have HAl := Lib.hid (fun (W' : World) (hb : Below w3.heap.size w3 W') => alone10_any Rs[k].v.at_ (rowL Rs[k].v.e) Rs[k].A Rs[k].c ol.length W' ((hRo.out.later hb).each _ (List.getElem_mem hkR)) (by omega) (by omega))
      rw [hfr, hol, hrl] at HAl
      rw [hrl] at HRA
      obtain ⟨b9, o9, rfl, _⟩ := HRA.out w3 (Below.refl _ _)
      have HRC : Hid (∀ W', Below w3.heap.size w3 W' → W'.cell? ⟨b9, o9 + k * 2, none⟩ = some (.int .i64 Rs[k].v.at_) ∧ W'.cell? ⟨b9, o9 + k * 2 + 1, none⟩ = some (.slice Rs[k].A (l.length + q.length) Rs[k].c)) := Lib.hid (fun W' hb => by
        obtain ⟨b7, o7, hA7, _, x0, x1⟩ := HRA.out W' hb
        obtain ⟨rfl, rfl⟩ : b9 = b7 ∧ o9 = o7 := by simpa using hA7
        exact ⟨x0, x1⟩)
      cases hfb : freeB Rs[k].v with
      | true =>
        rw [hfb] at HAl hhe
        rw [if_pos rfl] at hhe
        have HN : Hid (howR ol q id = none) := Lib.hid (by rw [hhr, hhe])
        clear hfi hf hhr hhe hnm hfr hkv hkl hka hrl HRA hfb
        go_wp2_with (first
          | (go_at_call 54; (with_reducible refine (HAt.out).mono ?_); rintro e w4 ⟨rfl, h4⟩)
          | (go_at_call 52; (with_reducible refine (HLd.out _ h4).mono ?_); rintro e w5 ⟨rfl, h5⟩; have b45 := h4.trans (h5.mono h4.size); obtain ⟨x0, x1⟩ := HRC.out w5 b45)
          | (go_at_call 53; (with_reducible refine (HAl.out _ b45).mono ?_); rintro e w6 ⟨rfl, h6⟩; have b46 := b45.trans (h6.mono b45.size); have b6 := HB3.out.trans (b46.mono HB3.out.size)))
        refine bodyPost_ret (v := .tuple #[.slice none 0 0, .int .i64 0, .int .i64 6]) ?hres rfl ?hpost
        case hres => simp [results, Tryz.results27, go_sem]
        case hpost => exact ⟨ol, HS, b6, .inl ⟨HN.out, rfl⟩⟩
      | false =>
        rw [hfb] at HAl hhe
        rw [if_neg (by decide)] at hhe
        have HN : Hid (howR ol q id = some Rs[k].v) := Lib.hid (by rw [hhr, hhe])
        have HNm := Lib.hid hnm
        have hq1 : 0 < q.length := by
          rcases Nat.eq_zero_or_pos q.length with h0 | h0
          · have : q = [] := List.length_eq_zero_iff.1 h0
            subst this
            unfold ledR at hkl
            simp [eqnL, solL] at hkl
          · exact h0
        have hps : Rs[k].v.e.ps.length = q.length := hnm.2.1
        have hfs : Rs[k].v.e.fs.length = l.length := by rw [hnm.2.2, hol]
        have hcap : l.length + q.length ≤ Rs[k].c := by rw [← hrl]; exact hRo.out.cap _ (List.getElem_mem hkR)
        have HFA : Hid (FrcAt w3 w3.heap.size Rs[k].A (rowL Rs[k].v.e)) := Lib.hid (hRo.out.each _ (List.getElem_mem hkR))
        obtain ⟨bA, oA, hAA, hbA, hx8, hx9⟩ := frc_at HFA.out (k := a) (by omega)
        clear hx8 hx9
        have HPs : Hid (FrcAt w3 w3.heap.size (some ⟨bA, oA + l.length * 2, none⟩) Rs[k].v.e.ps) := Lib.hid (fun j hj => by
          obtain ⟨b1, o1, h1, h2, h3⟩ := HFA.out (l.length + j) (by unfold rowL; rw [List.length_append]; omega)
          rw [hAA] at h1
          obtain ⟨rfl, rfl⟩ : bA = b1 ∧ oA = o1 := by simpa using h1
          refine ⟨bA, oA + l.length * 2, rfl, h2, fun i hi => ?_⟩
          have h4 := h3 i hi
          have h5 : (rowL Rs[k].v.e)[l.length + j]'(by unfold rowL; rw [List.length_append]; omega) = Rs[k].v.e.ps[j] := by
            unfold rowL
            rw [List.getElem_append_right (by omega)]
            simp [hfs]
          rw [h5] at h4
          rw [← h4]
          congr 2
          rw [Nat.add_mul]; omega)
        clear hfi hf hhr hhe hnm hfr hkv hkl hka hrl HRA hfb
        generalize Rs[k] = z at *
        obtain ⟨⟨ze, zat⟩, zA, zc⟩ := z
        dsimp only at *
        subst hAA
        go_upto_region 10 with (first
          | (go_at_call 54; (with_reducible refine (HAt.out).mono ?_); rintro e w4 ⟨rfl, h4⟩)
          | (go_at_call 52; (with_reducible refine (HLd.out _ h4).mono ?_); rintro e w5 ⟨rfl, h5⟩; have b45 := h4.trans (h5.mono h4.size); obtain ⟨x0, x1⟩ := HRC.out w5 b45)
          | (go_at_call 53; (with_reducible refine (HAl.out _ b45).mono ?_); rintro e w6 ⟨rfl, h6⟩; have b46 := b45.trans (h6.mono b45.size); have b6 := HB3.out.trans (b46.mono HB3.out.size)))
        have hc5 : (l.length + q.length) - l.length = q.length := by omega
        have hown0 := own_empty w6 101 2 w6.heap.size (Nat.le_refl _)
        have bE := (Below.refl w6.heap.size w6).alloc (Nat.le_refl _) (.cells #[] 101)
        have HPE := Lib.hid (HPs.out.later (b46.trans (bE.mono b46.size)))
        obtain ⟨z0, z1⟩ := HRC.out (w6.alloc (.cells #[] 101)) (b46.trans (bE.mono b46.size))
        have hnI : (l.length : Int) ≤ ((l.length + q.length : Nat) : Int) := by omega
        have hnN : ¬ ((l.length + q.length : Nat) : Int) < (l.length : Int) := by omega
        have hz1 : ¬ zc = l.length := by omega
        have hz2 : ¬ zc - l.length = 0 := by omega
        have hz3 : l.length < zc := by omega
        have hz4 : ¬ zc ≤ l.length := by omega
        have hz5 : l.length ≤ zc := by omega
        have hl1 : (ze.ps ++ [(⟨1, 1⟩ : Frc)]).length = q.length + 1 := by simp [hps]
        have HPs0 := Lib.hid hps
        clear hps hfs hcap HRC
        go_upto_region 11 with (first
          | (at_builtin; refine wpList_append_src _ rfl (.tmp 50) (.tmp 58) 96 rfl w6.heap.size 101 i4 _ 2 16 Tryz.underlying96 hi4 fq0 fq1 fq2 rfl (by decide) _ 0 [] rfl hown0 (some ⟨bA, oA + l.length * 2, none⟩) q.length (zc - l.length) (ze.ps.flatMap frcC) rfl (by rw [flat_len frcC_len, HPs0.out]) (by intro e; cases e) (Flat.news frcC_len (by decide) HPE.out) (flat_ones frcC_one ze.ps) (by unfold maxLen; omega) (by omega) (by simp) ?_; intro v7 w7 hown7 hg7 _; rw [Nat.zero_add, List.nil_append] at hown7; obtain ⟨A7, c7, rfl⟩ := own_slice hown7; have b7 := bE.grown hg7 bE.size (fun k e => (hown0.lt k e).1); have b7s := b7.size; have HO7 := Lib.hid (hown7.alloc (.cells #[.int .i64 1, .int .i64 1] 101)))
          | (at_builtin; refine wpList_append_own_at _ rfl _ _ 96 rfl w6.heap.size 101 i4 _ 2 16 Tryz.underlying96 hi4 fq0 fq1 fq2 rfl (by decide) _ _ _ rfl HO7.out ⟨w7.heap.size, 0, none⟩ 1 1 (frcC ⟨1, 1⟩) rfl rfl (frc_new w7 1 1 101) (frcC_one _) (by unfold maxLen; omega) (by omega) (by simp; omega) ?_; intro v8 w8 hown8 hg8 _ hat8; obtain ⟨A8, c8, rfl⟩ := own_slice hown8; have b8 := (b7.alloc b7.size (.cells #[.int .i64 1, .int .i64 1] 101)).grown hg8 (by simp; omega) (fun k e => (HO7.out.lt k e).1); have HNu := Lib.hid (numbers10_any (ze.ps ++ [⟨1, 1⟩]) A8 c8 w8 (Flat.of_own (c := c8) frcC_len (by decide) (by rw [hl1, List.flatMap_append]; exact hown8)) HNm.out.1); rw [hl1] at HNu)
          | (go_at_call 55; (with_reducible refine (HNu.out).mono ?_); rintro e w9 ⟨A9, c9, rfl, ho9, h9⟩))
        have b9 := b6.trans ((b8.trans (h9.mono b8.size)).mono b6.size)
        have hM : mltL (clrL 1 (ze.ps ++ [⟨1, 1⟩])) (ze.ps ++ [⟨1, 1⟩]) = mltL (clrL 1 ze.ps) ze.ps ++ [clrL 1 ze.ps] := by rw [clr_one, mlt_one]
        have hMl : (mltL (clrL 1 ze.ps) ze.ps).length = q.length := by rw [mlt_len, HPs0.out]
        have ho := ho9.out
        rw [hM] at ho
        have hc9 := own_capQ ho
        have I9 : IntsAt w9 w9.heap.size A9 (mltL (clrL 1 ze.ps) ze.ps ++ [clrL 1 ze.ps]) := Flat.of_own (c := c9) intC_len (by decide) (by rw [List.length_append, hMl]; exact ho)
        have I8 : Hid (IntsAt w9 w9.heap.size A9 (mltL (clrL 1 ze.ps) ze.ps)) := Lib.hid (fun j hj => by
          obtain ⟨b1, o1, h1, h2, h3⟩ := I9 j (by rw [List.length_append]; omega)
          refine ⟨b1, o1, h1, h2, fun i hi => ?_⟩
          have h4 := h3 i hi
          rw [List.getElem_append_left hj] at h4
          exact h4)
        obtain ⟨bM, oM, rfl, hbM, cM⟩ := ints_at I9 (k := q.length) (by rw [List.length_append, hMl]; simp)
        rw [List.getElem_append_right (by omega)] at cM
        simp only [hMl, Nat.sub_self, List.getElem_cons_zero] at cM
        have HN2 := Lib.hid hMl
        generalize hwh : clrL 1 ze.ps = whole at *
        have HWh := Lib.hid hwh
        have HIW : Hid (IntsAt w9 w9.heap.size (some ⟨bM, oM, none⟩) (mltL (clrL 1 ze.ps) ze.ps)) := by rw [HWh.out]; exact I8
        clear hwh
        have hqI : (q.length : Int) < ((q.length + 1 : Nat) : Int) := by omega
        have hqc : (q.length : Int) ≤ (c9 : Int) := by omega
        have hqN : q.length ≤ c9 := by omega
        clear I9 ho hM hMl HNu hown8 hg8 hat8 hown7 hg7 hown0 HPE z0 z1 b8 b7
        go_region
        go_wp2_with fail
        refine bodyPost_ret (v := .tuple #[.slice (some ⟨bM, oM, none⟩) q.length c9, .int .i64 whole, .int .i64 0]) ?hres rfl ?hpost
        case hres => simp [results, Tryz.results27, go_sem]
        case hpost =>
          refine ⟨ol, HS, by first | exact b9 | exact b9.drew, .inr ⟨⟨ze, zat⟩, some ⟨bM, oM, none⟩, c9, HN.out, ?_, by first | exact HIW | exact I8⟩⟩
          show _ = Ending.returned (.tuple #[.slice (some ⟨bM, oM, none⟩) (mltL (clrL 1 ze.ps) ze.ps).length c9, .int .i64 (clrL 1 ze.ps), .int .i64 0])
          rw [HWh.out, HN2.out]
end Go.Proofs.YtbkekdbabkncfaaGreat

namespace Go.Proofs.YtbkekdbabkncfaaGreat
open Go.RowKit Go.Maps Det

def DedO (W : World) (D : List Int) (E : Int) (e : Ending) (w' : World) : Prop := ∃ A' c', e = .returned (.tuple #[.slice A' D.length c', .int .i64 E]) ∧ Hid (IntsAt w' w'.heap.size A' D) ∧ Below W.heap.size W w'
def HowO (W : World) (D : List Int) (M E : Int) (e : Ending) (w' : World) : Prop := ∃ A' c', e = .returned (.tuple #[.slice A' D.length c', .int .i64 M, .int .i64 E]) ∧ Hid (IntsAt w' w'.heap.size A' D) ∧ Below W.heap.size W w'
theorem ints_none (w : World) (B : Nat) : IntsAt w B none ([] : List Int) := fun k hk => by simp at hk
set_option maxRecDepth 100000 in
set_option maxHeartbeats 4000000 in
theorem refDed_bad (columns : Int) (l : List SubD) (A : Option Addr) (c : Nat) (q : List QueD) (Q : Option Addr) (qc : Nat) (w : World) (E : Int) (hE : E = 100 ∨ E = 102) (HC : Calls Tryz.prog 49 #[.int .i64 columns, .slice A l.length c, .slice Q q.length qc] w fun e w' => e = .returned (.int .i64 E) ∧ Below w.heap.size w w') :
    Calls Tryz.prog 26 #[.int .i64 columns, .slice A l.length c, .slice Q q.length qc] w (DedO w [] E) := by
  rcases hE with rfl | rfl
  all_goals
    go_enter Tryz.func26, Tryz.ntmps26
    go_wp2_with (go_at_call 49; (with_reducible refine (HC).mono ?_); rintro e w1 ⟨rfl, h1⟩)
  · refine bodyPost_ret (v := .tuple #[.slice none 0 0, .int .i64 100]) ?hres rfl ?hpost
    case hres => simp [results, Tryz.results26, go_sem]
    case hpost => exact ⟨none, 0, rfl, Lib.hid (ints_none _ _), h1⟩
  · refine bodyPost_ret (v := .tuple #[.slice none 0 0, .int .i64 102]) ?hres rfl ?hpost
    case hres => simp [results, Tryz.results26, go_sem]
    case hpost => exact ⟨none, 0, rfl, Lib.hid (ints_none _ _), h1⟩
set_option maxRecDepth 100000 in
set_option maxHeartbeats 4000000 in
theorem refHow_bad (columns : Int) (l : List SubD) (A : Option Addr) (c : Nat) (q : List QueD) (Q : Option Addr) (qc : Nat) (id : Int) (w : World) (E : Int) (hE : E = 100 ∨ E = 102) (HC : Calls Tryz.prog 49 #[.int .i64 columns, .slice A l.length c, .slice Q q.length qc] w fun e w' => e = .returned (.int .i64 E) ∧ Below w.heap.size w w') :
    Calls Tryz.prog 27 #[.int .i64 columns, .slice A l.length c, .slice Q q.length qc, .int .i64 id] w (HowO w [] 0 E) := by
  rcases hE with rfl | rfl
  all_goals
    go_enter Tryz.func27, Tryz.ntmps27
    go_wp2_with (go_at_call 49; (with_reducible refine (HC).mono ?_); rintro e w1 ⟨rfl, h1⟩)
  · refine bodyPost_ret (v := .tuple #[.slice none 0 0, .int .i64 0, .int .i64 100]) ?hres rfl ?hpost
    case hres => simp [results, Tryz.results27, go_sem]
    case hpost => exact ⟨none, 0, rfl, Lib.hid (ints_none _ _), h1⟩
  · refine bodyPost_ret (v := .tuple #[.slice none 0 0, .int .i64 0, .int .i64 102]) ?hres rfl ?hpost
    case hres => simp [results, Tryz.results27, go_sem]
    case hpost => exact ⟨none, 0, rfl, Lib.hid (ints_none _ _), h1⟩
/-- A table and an audit in memory, small. -/
structure Ask10 (w : World) (l : List SubD) (A : Option Addr) (q : List QueD) (Q : Option Addr) : Prop where
  sub : SubsAt w w.heap.size A l
  que : QuesAt w w.heap.size Q q
  ll : l.length ≤ 24
  ql : q.length ≤ 12
  lv : ∀ x ∈ l, x.v.vals.length ≤ 10
  qv : ∀ x ∈ q, x.v.wheres.length ≤ 10
theorem Ask10.later {w w' : World} {l : List SubD} {A : Option Addr} {q : List QueD} {Q : Option Addr} (h : Ask10 w l A q Q) (hb : Below w.heap.size w w') : Ask10 w' l A q Q := ⟨h.sub.later hb, h.que.later hb, h.ll, h.ql, h.lv, h.qv⟩
theorem le10 {n : Nat} (h : n ≤ 10) : n ≤ maxLen := by unfold maxLen; omega
theorem Ask10.rdy {w : World} {columns : Int} {l : List SubD} {A : Option Addr} {q : List QueD} {Q : Option Addr} (h : Ask10 w l A q Q) (ht : tabB columns (l.map SubD.v) = true) (ha : avlB columns q = true) : Rdy w columns l A q Q :=
  ⟨h.sub, fun x hx => le10 (h.lv x hx), ht, h.que, fun x hx => le10 (h.qv x hx), ha⟩
theorem avl_congr {columns : Int} {q q' : List QueD} (h : q'.map QueD.v = q.map QueD.v) : avlB columns q' = avlB columns q := by
  have hl : q'.length = q.length := by simpa using congrArg List.length h
  have h0 : q0L q' = q0L q := by
    cases q' with
    | nil => cases q with
      | nil => rfl
      | cons y r => simp at hl
    | cons x s => cases q with
      | nil => simp at hl
      | cons y r => simp only [List.map_cons, List.cons.injEq] at h; exact h.1
  have e : ∀ l : List QueD, (l.all fun x : QueD => fitB columns (q0L q) x.v) = (l.map QueD.v).all (fitB columns (q0L q)) := fun l => by rw [List.all_map]; rfl
  unfold avlB
  rw [hl, h0, e, e, h]
/-- What both answer. -/
theorem both_ded (columns : Int) (l : List SubD) (q : List QueD) (id : Int) : ∃ (D : List Int) (E : Int) (P : List Int) (M E2 : Int), D.length ≤ 1000 ∧ P.length ≤ 1000 ∧
    (∀ w tl A c tq Q qc, Ask10 w tl A tq Q → tl.map SubD.v = l.map SubD.v → tq.map QueD.v = q.map QueD.v →
      Calls Tryz.prog 19 #[.int .i64 columns, .slice A (List.length tl) c, .slice Q (List.length tq) qc] w (DedO w D E) ∧
      Calls Tryz.prog 26 #[.int .i64 columns, .slice A (List.length tl) c, .slice Q (List.length tq) qc] w (DedO w D E) ∧
      Calls Tryz.prog 16 #[.int .i64 columns, .slice A (List.length tl) c, .slice Q (List.length tq) qc, .int .i64 id] w (HowO w P M E2) ∧
      Calls Tryz.prog 27 #[.int .i64 columns, .slice A (List.length tl) c, .slice Q (List.length tq) qc, .int .i64 id] w (HowO w P M E2)) := by
  cases ht : tabB columns (l.map SubD.v) with
  | false =>
    refine ⟨[], 100, [], 0, 100, by simp, by simp, fun w tl A c tq Q qc h hl hq => ?_⟩
    rw [← hl] at ht
    have HA : ∀ W, Below w.heap.size w W → Calls Tryz.prog 44 #[.int .i64 columns, .slice A tl.length c, .slice Q tq.length qc] W fun e w' => e = .returned (.tuple #[.agg #[.slice none 0 0, .map none, .slice none 0 0], .int .i64 100]) ∧ Below W.heap.size W w' := fun W hb => openAudit_bad1 columns tl A c tq Q qc W (h.later hb).sub (by have := h.ll; unfold maxLen; omega) (fun x hx => le10 (h.lv x hx)) ht
    have HC := checked10_any columns tl A c tq Q qc w h.sub h.ll h.que h.ql h.qv
    rw [ht, if_neg (by decide)] at HC
    refine ⟨(deduced_bad columns tl A c tq Q qc w 100 (.inl rfl) HA).mono fun e w' ⟨h1, h2⟩ => ⟨none, 0, h1, Lib.hid (ints_none _ _), h2⟩, refDed_bad columns tl A c tq Q qc w 100 (.inl rfl) HC, (how_bad columns tl A c tq Q qc id w 100 (.inl rfl) fun W hb => openAbout_bad columns tl A c tq Q qc id W 100 (.inl rfl) fun W2 hb2 => HA W2 (hb.trans (hb2.mono hb.size))).mono fun e w' ⟨h1, h2⟩ => ⟨none, 0, h1, Lib.hid (ints_none _ _), h2⟩, refHow_bad columns tl A c tq Q qc id w 100 (.inl rfl) HC⟩
  | true =>
    cases ha : avlB columns q with
    | false =>
      refine ⟨[], 102, [], 0, 102, by simp, by simp, fun w tl A c tq Q qc h hl hq => ?_⟩
      rw [← hl] at ht
      rw [← avl_congr hq] at ha
      have HA : ∀ W, Below w.heap.size w W → Calls Tryz.prog 44 #[.int .i64 columns, .slice A tl.length c, .slice Q tq.length qc] W fun e w' => e = .returned (.tuple #[.agg #[.slice none 0 0, .map none, .slice none 0 0], .int .i64 102]) ∧ Below W.heap.size W w' := fun W hb => openAudit_bad2 columns tl A c tq Q qc W (h.later hb).sub (fun x hx => le10 (h.lv x hx)) by_all ht (h.later hb).que (fun x hx => le10 (h.qv x hx)) (by have := h.ql; omega) ha
      have HC := checked10_any columns tl A c tq Q qc w h.sub h.ll h.que h.ql h.qv
      rw [ht, ha, if_pos rfl, if_neg (by decide)] at HC
      refine ⟨(deduced_bad columns tl A c tq Q qc w 102 (.inr rfl) HA).mono fun e w' ⟨h1, h2⟩ => ⟨none, 0, h1, Lib.hid (ints_none _ _), h2⟩, refDed_bad columns tl A c tq Q qc w 102 (.inr rfl) HC, (how_bad columns tl A c tq Q qc id w 102 (.inr rfl) fun W hb => openAbout_bad columns tl A c tq Q qc id W 102 (.inr rfl) fun W2 hb2 => HA W2 (hb.trans (hb2.mono hb.size))).mono fun e w' ⟨h1, h2⟩ => ⟨none, 0, h1, Lib.hid (ints_none _ _), h2⟩, refHow_bad columns tl A c tq Q qc id w 102 (.inr rfl) HC⟩
    | true =>
      obtain ⟨ol, ho⟩ := srt_some l
      have hn := tab_ids ht
      have h8 := (avl_parts ha).1
      have key : ∀ tl tq ol', tl.map SubD.v = l.map SubD.v → tq.map QueD.v = q.map QueD.v → SrtOf tl ol' → dedR ol' tq = dedR ol q ∧ howR ol' tq id = howR ol q id := fun tl tq ol' hl hq ho' => by
        obtain ⟨c1, c2⟩ := led_congr (srt_congr ho ho' hl hn) hq
        unfold dedR howR
        rw [c1, c2]
        exact ⟨rfl, rfl⟩
      have hdl : (dedR ol q).length ≤ 1000 := by have := ded8 (ol := ol) (qs := q) h8; omega
      cases hh : howR ol q id with
      | none =>
        refine ⟨dedR ol q, 0, [], 0, 6, hdl, by simp, fun w tl A c tq Q qc h hl hq => ?_⟩
        have hr := h.rdy (columns := columns) (by rw [hl]; exact ht) (by rw [avl_congr hq]; exact ha)
        refine ⟨(hr.deduced (c := c) (sc := qc)).mono ?_, (refDed_ok columns tl A c tq Q qc w hr h.qv).mono ?_, (hr.how (c := c) (sc := qc) id).mono ?_, (refHow_ok columns tl A c tq Q qc id w hr h.qv).mono ?_⟩
        · rintro e w' ⟨ol', A', c', ho', rfl, hf, hb⟩
          rw [(key tl tq ol' hl hq ho'.out).1] at hf ⊢
          exact ⟨A', c', rfl, Lib.hid hf.flat, hb⟩
        · rintro e w' ⟨ol', A', c', ho', rfl, hf, hb⟩
          rw [(key tl tq ol' hl hq ho'.out).1] at hf ⊢
          exact ⟨A', c', rfl, hf, hb⟩
        · rintro e w' ⟨ol', ho', hb, ⟨_, rfl⟩ | ⟨x, A', c', h2, _⟩⟩
          · exact ⟨none, 0, rfl, Lib.hid (ints_none _ _), hb⟩
          · rw [(key tl tq ol' hl hq ho'.out).2, hh] at h2; cases h2
        · rintro e w' ⟨ol', ho', hb, ⟨_, rfl⟩ | ⟨x, A', c', h2, _⟩⟩
          · exact ⟨none, 0, rfl, Lib.hid (ints_none _ _), hb⟩
          · rw [(key tl tq ol' hl hq ho'.out).2, hh] at h2; cases h2
      | some z =>
        have hz : z ∈ ledR ol q := by
          unfold howR at hh
          rw [Option.bind_eq_some_iff] at hh
          obtain ⟨a, _, h2⟩ := hh
          exact ((how_iff (led_distinct h8) a).1 z h2).1
        have hpl : (mltL (clrL 1 z.e.ps) z.e.ps).length ≤ 1000 := by rw [mlt_len, (how_num h8 hz).2.1]; omega
        refine ⟨dedR ol q, 0, mltL (clrL 1 z.e.ps) z.e.ps, clrL 1 z.e.ps, 0, hdl, hpl, fun w tl A c tq Q qc h hl hq => ?_⟩
        have hr := h.rdy (columns := columns) (by rw [hl]; exact ht) (by rw [avl_congr hq]; exact ha)
        refine ⟨(hr.deduced (c := c) (sc := qc)).mono ?_, (refDed_ok columns tl A c tq Q qc w hr h.qv).mono ?_, (hr.how (c := c) (sc := qc) id).mono ?_, (refHow_ok columns tl A c tq Q qc id w hr h.qv).mono ?_⟩
        · rintro e w' ⟨ol', A', c', ho', rfl, hf, hb⟩
          rw [(key tl tq ol' hl hq ho'.out).1] at hf ⊢
          exact ⟨A', c', rfl, Lib.hid hf.flat, hb⟩
        · rintro e w' ⟨ol', A', c', ho', rfl, hf, hb⟩
          rw [(key tl tq ol' hl hq ho'.out).1] at hf ⊢
          exact ⟨A', c', rfl, hf, hb⟩
        · rintro e w' ⟨ol', ho', hb, ⟨h2, rfl⟩ | ⟨x, A', c', h2, rfl, hf⟩⟩
          · rw [(key tl tq ol' hl hq ho'.out).2, hh] at h2; cases h2
          · rw [(key tl tq ol' hl hq ho'.out).2, hh] at h2
            obtain rfl : z = x := by simpa using h2
            exact ⟨A', c', rfl, Lib.hid hf.flat, hb⟩
        · rintro e w' ⟨ol', ho', hb, ⟨h2, rfl⟩ | ⟨x, A', c', h2, rfl, hf⟩⟩
          · rw [(key tl tq ol' hl hq ho'.out).2, hh] at h2; cases h2
          · rw [(key tl tq ol' hl hq ho'.out).2, hh] at h2
            obtain rfl : z = x := by simpa using h2
            exact ⟨A', c', rfl, hf, hb⟩
set_option maxRecDepth 100000 in
set_option maxHeartbeats 16000000 in
theorem sumDeduces_any (columns : Int) (l : List SubD) (A : Option Addr) (c : Nat) (q : List QueD) (Q : Option Addr) (qc : Nat) (id : Int) (w : World) (h : SubsAt w w.heap.size A l) (hm : ∀ x ∈ l, x.v.vals.length ≤ maxLen) (hq : QuesAt w w.heap.size Q q) (hqw : ∀ x ∈ q, x.v.wheres.length ≤ maxLen) (_hid : -9223372036854775808 ≤ id ∧ id ≤ 9223372036854775807) :
    Calls Tryz.prog 4 #[.int .i64 columns, .slice A l.length c, .slice Q q.length qc, .int .i64 id] w fun e w' => e = .returned (.bool true) ∧ Below w.heap.size w w' := by
  have HG := Lib.hid (great10_any l A c q Q qc w h hq ⟨hm, hqw⟩)
  cases hg : grtB l q with
  | true =>
    rw [hg] at HG
    clear h hm hq hqw hg
    go_enter Tryz.func4, Tryz.ntmps4
    go_wp2_with (go_at_call 23; (with_reducible refine (HG.out).mono ?_); rintro e w1 ⟨rfl, h1⟩)
    go_ret
    exact ⟨rfl, h1⟩
  | false =>
    rw [hg] at HG
    obtain ⟨g1, g2, g3, g4⟩ := grt_parts hg
    have h0 : Ask10 w l A q Q := ⟨h, hq, g1, g2, fun x hx => by
      obtain ⟨i, hi, rfl⟩ := List.mem_iff_getElem.1 hx
      exact g3 i hi, fun x hx => by
      obtain ⟨i, hi, rfl⟩ := List.mem_iff_getElem.1 hx
      exact g4 i hi⟩
    have H0 := Lib.hid h0
    have HTs := Lib.hid (fun (W : World) (hb : Below w.heap.size w W) => twinS_any l A c W (h.later hb) (by omega) (fun x hx => by have := h0.lv x hx; omega))
    have HTq := Lib.hid (fun (W : World) (hb : Below w.heap.size w W) => twinQ_any q Q qc W (hq.later hb) (by omega) (fun x hx => by have := h0.qv x hx; omega))
    obtain ⟨D, E, P, M, E2, hD, hP, hall⟩ := both_ded columns l q id
    have HAll := Lib.hid hall
    have HR1 := Lib.hid (fun (W : World) (hb : Below w.heap.size w W) => hall W l A c q Q qc (h0.later hb) rfl rfl)
    clear h hm hq hqw hg g1 g2 g3 g4 h0 hall
    go_enter Tryz.func4, Tryz.ntmps4
    go_wp2_with (first
      | (go_at_call 23; (with_reducible refine (HG.out).mono ?_); rintro e w1 ⟨rfl, h1⟩)
      | (go_at_call 24; (with_reducible refine (HTs.out _ h1).mono ?_); rintro e w2 ⟨A1, c1, tl, rfl, t1, h2⟩; have b2 := h1.trans (h2.mono h1.size))
      | (go_at_call 25; (with_reducible refine (HTq.out _ b2).mono ?_); rintro e w3 ⟨B1, d1, tq, rfl, t2, h3⟩; have b3 := b2.trans (h3.mono b2.size); have htl : tl.length = l.length := (by have := congrArg List.length t1.out.1; simpa using this); have htq : tq.length = q.length := (by have := congrArg List.length t2.out.1; simpa using this); have HT : Hid (Ask10 w3 tl A1 tq B1) := Lib.hid ⟨t1.out.2.later h3, t2.out.2, by rw [htl]; exact H0.out.ll, by rw [htq]; exact H0.out.ql, fun x hx => (by
          have h9 := List.mem_map_of_mem (f := SubD.v) hx
          rw [t1.out.1] at h9
          obtain ⟨y, hy, he⟩ := List.mem_map.1 h9
          rw [← he]
          exact H0.out.lv y hy), fun x hx => (by
          have h9 := List.mem_map_of_mem (f := QueD.v) hx
          rw [t2.out.1] at h9
          obtain ⟨y, hy, he⟩ := List.mem_map.1 h9
          rw [← he]
          exact H0.out.qv y hy)⟩; have HP1 := Lib.hid (fun (W : World) (hb : Below w3.heap.size w3 W) => HAll.out W tl A1 c1 tq B1 d1 (HT.out.later hb) t1.out.1 t2.out.1); rw [htl, htq] at HP1)
      | (go_at_call 19; (with_reducible refine (HP1.out w3 (Below.refl _ _)).1.mono ?_); rintro e w4 ⟨A4, c4, rfl, i4, h4⟩; have b4 := b3.trans (h4.mono b3.size))
      | (go_at_call 26; (with_reducible refine (HR1.out w4 b4).2.1.mono ?_); rintro e w5 ⟨A5, c5, rfl, i5, h5⟩; have b5 := b4.trans (h5.mono b4.size); have k5 := h4.trans (h5.mono h4.size))
      | (go_at_call 16; (with_reducible refine (HP1.out w5 k5).2.2.1.mono ?_); rintro e w6 ⟨A6, c6, rfl, i6, h6⟩; have b6 := b5.trans (h6.mono b5.size); have k6 := k5.trans (h6.mono k5.size))
      | (go_at_call 27; (with_reducible refine (HR1.out w6 b6).2.2.2.mono ?_); rintro e w7 ⟨A7, c7, rfl, i7, h7⟩; have b7 := b6.trans (h7.mono b6.size); have k7 := k6.trans (h7.mono k6.size); have S1 := Lib.hid (sameInts_any D A4 A5 c4 c5 w7 (i4.out.later (h5.trans ((h6.trans (h7.mono h6.size)).mono h5.size))) (i5.out.later (h6.trans (h7.mono h6.size))) hD); have S2 := Lib.hid (fun (W : World) (hb : Below w7.heap.size w7 W) => sameInts_any P A6 A7 c6 c7 W (i6.out.later (h7.trans (hb.mono h7.size))) (i7.out.later hb) hP); have S3 := Lib.hid (fun (W : World) (hb : Below w3.heap.size w3 W) (hw : Below w.heap.size w W) => sameTable_any tl l A1 A c1 c W (HT.out.later hb).sub (H0.out.later hw).sub t1.out.1 (by have := HT.out.ll; omega) (fun x hx => by have := HT.out.lv x hx; omega)); have S4 := Lib.hid (fun (W : World) (hb : Below w3.heap.size w3 W) (hw : Below w.heap.size w W) => sameQues_any tq q B1 Q d1 qc W (HT.out.later hb).que (H0.out.later hw).que t2.out.1 (by have := HT.out.ql; omega) (fun x hx => by have := HT.out.qv x hx; omega)); rw [htl] at S3; rw [htq] at S4)
      | (go_at_call 18; first
        | ((with_reducible refine (S2.out _ f1).mono ?_); rintro e x2 ⟨rfl, f2'⟩; have f2 := f1.trans (f2'.mono f1.size))
        | ((with_reducible refine (S1.out).mono ?_); rintro e x1 ⟨rfl, f1⟩))
      | (go_at_call 28; (with_reducible refine (S3.out _ (k7.trans (f2.mono k7.size)) (b7.trans (f2.mono b7.size))).mono ?_); rintro e x3 ⟨rfl, f3'⟩; have f3 := f2.trans (f3'.mono f2.size))
      | (go_at_call 29; (with_reducible refine (S4.out _ (k7.trans (f3.mono k7.size)) (b7.trans (f3.mono b7.size))).mono ?_); rintro e x4 ⟨rfl, f4'⟩; have f4 := f3.trans (f4'.mono f3.size)))
    go_ret
    exact ⟨ret_bool (by simp), b7.trans (f4.mono b7.size)⟩
end Go.Proofs.YtbkekdbabkncfaaGreat
