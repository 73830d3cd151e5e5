/- How: the parts, in whole numbers. -/
import Derived.Test.YtbkekdbabkncfaaGreatV3
import Derived.Test.YtbkekdbabkncfaaGreatW1
import Derived.Test.YtbkekdbabkncfaaGreatURef5
import Derived.Test.YtbkekdbabkncfaaGreatUApp

namespace Go.Proofs.YtbkekdbabkncfaaGreat
open Go.RowKit Go.Maps Det

theorem row_bit (ol : List SubD) (q : Que) {c : Nat} (hc : c < ol.length) : rowQ ol q c = if askB ol[c].v q = true then 1 else 0 := by
  unfold rowQ
  have hl := askL_len q ol
  rw [dig_val _ _ _ hc, bitsN_bit _ _ (by rw [hl]; exact hc), getD_lt _ _ (by rw [hl]; exact hc)]
  have e : (askL q ol)[c]'(by rw [hl]; exact hc) = askB ol[c].v q := by
    unfold askL
    rw [List.getElem_map]
  rw [e]
  split <;> rfl
/-- What the first k parts make of one subject. -/
def madeN (N : List Int) (qs : List Que) (s : Sub) : Nat → Int
  | 0 => 0
  | k + 1 => madeN N qs s k + if askB s (qs.getD k ⟨[], 0, 0, 0⟩) = true then N.getD k 0 else 0
theorem mlt_len (m : Int) (l : List Frc) : (mltL m l).length = l.length := by unfold mltL; simp
theorem mlt_val {l : List Frc} {w : Int} (h : ∀ f ∈ l, FrcOk f) (hd : ∀ f ∈ l, f.d ∣ w) {i : Nat} (hi : i < l.length) : (((mltL w l).getD i 0 : Int) : Rat) = val (l.getD i default) * (w : Rat) := by
  have hm := List.getElem_mem hi
  rw [getD_lt _ _ (by rw [mlt_len]; exact hi), getD_lt _ _ hi]
  have e : (mltL w l)[i]'(by rw [mlt_len]; exact hi) = w.tdiv l[i].d * l[i].n := by
    unfold mltL
    rw [List.getElem_map]
  obtain ⟨t, ht⟩ := hd _ hm
  have hf := h _ hm
  have hd0 : l[i].d ≠ 0 := by have := hf.1; omega
  rw [e, ht, Int.mul_tdiv_cancel_left _ hd0, Rat.intCast_mul, Rat.intCast_mul, ← val_mul hf]
  grind
theorem made_sum {ol : List SubD} {qs : List QueD} {ps : List Frc} {w : Int} (h : ∀ f ∈ ps, FrcOk f) (hd : ∀ f ∈ ps, f.d ∣ w) (hl : ps.length = qs.length) {c : Nat} (hc : c < ol.length) : ∀ k, k ≤ qs.length →
    ((madeN (mltL w ps) (qs.map QueD.v) ol[c].v k : Int) : Rat) = (w : Rat) * sumR k fun i => val (ps.getD i default) * rowsR ol (qs.map QueD.v) i c
  | 0, _ => by show (0 : Rat) = (w : Rat) * 0; grind
  | k + 1, hk => by
    have hk2 : k < (qs.map QueD.v).length := by rw [List.length_map]; omega
    have e1 : rowsR ol (qs.map QueD.v) k c = if askB ol[c].v ((qs.map QueD.v).getD k ⟨[], 0, 0, 0⟩) = true then 1 else 0 := by
      unfold rowsR
      rw [List.getElem?_eq_getElem hk2, getD_lt _ _ hk2]
      exact row_bit ol _ hc
    have ih := made_sum h hd hl hc k (by omega)
    have e2 := mlt_val h hd (i := k) (by omega)
    simp only [madeN, sumR]
    rw [Rat.intCast_add, ih, e1, Rat.mul_add]
    congr 1
    split
    · rw [e2]; grind
    · show (0 : Rat) = _
      grind
/-- Whoever's value follows: the parts make whole of one, and nothing of all others. -/
theorem how_made {ol : List SubD} {qs : List QueD} (h8 : qs.length ≤ 8) {l : Led} (hl : l ∈ ledR ol qs) (hf : freeB l = false) {c : Nat} (hc : c < ol.length) :
    madeN (mltL (clrL 1 l.e.ps) l.e.ps) (qs.map QueD.v) ol[c].v qs.length = if c = l.at_ then clrL 1 l.e.ps else 0 := by
  obtain ⟨rows, r1, _⟩ := led_all ol qs h8
  have hw := r1.ok.wf l hl
  have hz := (frees hw.1).1 hf
  obtain ⟨e, hi⟩ := r1.ok.inv
  obtain ⟨j, hj, hjl⟩ := List.mem_iff_getElem.1 hl
  have hu := hi.unit j hj j hj
  rw [if_pos rfl] at hu
  unfold Lf Pf at hu
  rw [getD_lt _ _ hj, hjl] at hu
  obtain ⟨E, hE, hB, hO⟩ := r1.ok.whole (led_ok ol qs h8).2.2
  obtain ⟨_, i2, i3, i4, _, _⟩ := all_clr hE hB (col_over hw.1 (hO l hl)).2
  have hs := made_sum (ol := ol) (qs := qs) hw.1.po i4 hw.1.pl hc qs.length (Nat.le_refl _)
  have hcb := r1.comb l hl c hc
  have e1 : (sumR qs.length fun i => val (l.e.ps.getD i default) * rowsR ol (qs.map QueD.v) i c) = col ol.length l.e c := by
    rw [hcb]
    exact sumR_congr fun i _ => by
      unfold col
      rw [if_neg (by omega), Nat.add_sub_cancel_left]
  rw [e1] at hs
  rcases Nat.lt_trichotomy c l.at_ with h | h | h
  · rw [if_neg (by omega)]
    rw [r1.fst l hl c h, Rat.mul_zero] at hs
    exact Rat.intCast_eq_zero_iff.1 hs
  · rw [if_pos h]
    have hc1 : col ol.length l.e c = 1 := by rw [h]; exact hu
    rw [hc1, Rat.mul_one] at hs
    exact Rat.intCast_inj.1 hs
  · rw [if_neg (by omega)]
    rw [hz c h hc, Rat.mul_zero] at hs
    exact Rat.intCast_eq_zero_iff.1 hs
/-- The least number that clears is no more than any that does. -/
theorem clr_dvd {E : Int} : ∀ (l : List Frc) (m : Int), 1 ≤ m → m ∣ E → (∀ f ∈ l, 1 ≤ f.d ∧ f.d ∣ E) → clrL m l ∣ E
  | [], _, _, hd, _ => hd
  | f :: r, m, hm, hd, hl => by
    obtain ⟨f1, f2⟩ := hl f (by simp)
    obtain ⟨k1, k2, _, _⟩ := lcm_dvd hm f1 hd f2
    exact clr_dvd r _ k1 k2 (fun g hg => hl g (by simp [hg]))
/-- No number above 1 divides what clears and all that is cleared. -/
theorem how_prime {l : List Frc} {w g : Int} (hw : w = clrL 1 l) (h : ∀ f ∈ l, FrcOk f) (hd : ∀ f ∈ l, f.d ∣ w) (h1 : 1 ≤ w) (hg : 1 ≤ g) (gw : g ∣ w) (gl : ∀ x ∈ mltL w l, g ∣ x) : g = 1 := by
  obtain ⟨t, ht⟩ := gw
  have ht1 : 1 ≤ t := by
    by_cases h2 : t < 1
    · have : g * t ≤ 0 := Int.mul_nonpos_of_nonneg_of_nonpos (by omega) (by omega)
      omega
    · omega
  have hcl : clrL 1 l ∣ t := clr_dvd l 1 (Int.le_refl 1) ⟨t, (Int.one_mul t).symm⟩ fun f hf => by
    refine ⟨(h f hf).1, ?_⟩
    obtain ⟨u, hu⟩ := hd f hf
    have hd0 : f.d ≠ 0 := by have := (h f hf).1; omega
    obtain ⟨z, hz⟩ := gl (w.tdiv f.d * f.n) (by unfold mltL; exact List.mem_map.2 ⟨f, hf, rfl⟩)
    rw [hu, Int.mul_tdiv_cancel_left _ hd0] at hz
    -- d * u = g * t, u * n = g * z: so d divides t * n, hence t
    have e1 : f.d * z = t * f.n := by
      have e2 : g * (f.d * z) = g * (t * f.n) := by
        calc g * (f.d * z) = f.d * (g * z) := by grind
          _ = f.d * (u * f.n) := by rw [hz]
          _ = (f.d * u) * f.n := by grind
          _ = (g * t) * f.n := by rw [← hu, ht]
          _ = g * (t * f.n) := by grind
      exact Int.eq_of_mul_eq_mul_left (by omega) e2
    have hco : Nat.Coprime f.d.natAbs f.n.natAbs := by
      have := (h f hf).2
      rw [Int.gcd_comm] at this; exact this
    have h3 : f.d.natAbs ∣ t.natAbs * f.n.natAbs := ⟨z.natAbs, by rw [← Int.natAbs_mul, ← e1, Int.natAbs_mul]⟩
    exact Int.natAbs_dvd_natAbs.1 (hco.dvd_of_dvd_mul_right h3)
  rw [← hw] at hcl
  have h4 := Int.le_of_dvd (by omega) hcl
  rw [ht] at h4
  have h5 : g * t ≤ t := h4
  by_cases h6 : 1 < g
  · have : 2 * t ≤ g * t := Int.mul_le_mul_of_nonneg_right (by omega) (by omega)
    omega
  · omega
end Go.Proofs.YtbkekdbabkncfaaGreat

namespace Go.Proofs.YtbkekdbabkncfaaGreat
open Go.RowKit Go.Maps Det

theorem sumR_swap (m : Nat) (f : Nat → Nat → Rat) : ∀ n, (sumR n fun c => sumR m fun j => f c j) = sumR m fun j => sumR n fun c => f c j
  | 0 => by
    show (0 : Rat) = _
    exact (sumR_zero fun _ _ => rfl).symm
  | n + 1 => by
    show (sumR n fun c => sumR m fun j => f c j) + (sumR m fun j => f n j) = _
    rw [sumR_swap m f n]
    have e : (sumR m fun j => sumR (n + 1) fun c => f c j) = sumR m fun j => 1 * (sumR n fun c => f c j) + 1 * f n j := sumR_congr fun j _ => by
      show (sumR n fun c => f c j) + f n j = _
      grind
    rw [e, sumR_lin]; grind
theorem mor_none {free c : Nat} : ∀ (ls : List Led) (o : List Frc), (∀ l ∈ ls, l.at_ ≠ c) → (ls.foldl (morS free) o).getD c default = o.getD c default
  | [], _, _ => rfl
  | l :: r, o, h => by
    have h1 := h l (by simp)
    show ((r.foldl (morS free) (morS free o l))).getD c default = _
    rw [mor_none r _ (fun x hx => h x (by simp [hx]))]
    unfold morS
    rw [List.getD_eq_getElem?_getD, List.getElem?_set_ne h1, ← List.getD_eq_getElem?_getD]
theorem mor_some {free c : Nat} {l : Led} : ∀ (ls : List Led) (o : List Frc), ls.Pairwise (fun x y => x.at_ ≠ y.at_) → l ∈ ls → l.at_ = c → c < o.length → (ls.foldl (morS free) o).getD c default = subF (intF 0) (l.e.fs.getD free default)
  | [], _, _, h, _, _ => by simp at h
  | x :: r, o, hp, h, hc, ho => by
    rw [List.pairwise_cons] at hp
    show ((r.foldl (morS free) (morS free o x))).getD c default = _
    rcases List.mem_cons.1 h with rfl | h
    · rw [mor_none r _ (fun y hy => by have := hp.1 y hy; omega)]
      unfold morS
      rw [hc, List.getD_eq_getElem?_getD, List.getElem?_set_self ho]
      rfl
    · exact mor_some r _ hp.2 h hc (by unfold morS; rw [List.length_set]; exact ho)
theorem mor_val {ol : List SubD} {qs : List QueD} (h8 : qs.length ≤ 8) {free : Nat} (hfr : free < ol.length) (hn : ∀ l ∈ ledR ol qs, l.at_ ≠ free) {c : Nat} (hc : c < ol.length) :
    val ((moreL (ledR ol qs) ol.length free).getD c default) = unitR free c - sumR (ledR ol qs).length fun k => unitR (Pf (ledR ol qs) k) c * Lf ol.length (ledR ol qs) k free := by
  have hok := (led_ok ol qs h8).2.1
  have hdig : val ((digL (2 ^ free) ol.length).getD c default) = unitR free c := by
    rw [dig_val _ _ _ hc, two_pow_bit]
    unfold unitR
    split <;> rfl
  unfold moreL
  by_cases hx : ∃ j, j < (ledR ol qs).length ∧ Pf (ledR ol qs) j = c
  · obtain ⟨j, hj, hja⟩ := hx
    have hm : (ledR ol qs)[j] ∈ ledR ol qs := List.getElem_mem hj
    have hat : (ledR ol qs)[j].at_ = c := by
      unfold Pf at hja
      rwa [getD_lt _ _ hj] at hja
    rw [mor_some _ _ (led_distinct h8) hm hat (by rw [dig_len]; exact hc)]
    have hw := hok.wf _ hm
    rw [(subF_ok (intF_ok 0).1 (getD_ok hw.1.fo free)).2, (intF_ok 0).2, hw.1.fget hfr]
    rw [sumR_one hj (fun k hk hkj => by
      have hd := List.pairwise_iff_getElem.1 (led_distinct (ol := ol) (qs := qs) h8)
      have : Pf (ledR ol qs) k ≠ c := by
        unfold Pf
        rw [getD_lt _ _ hk, ← hat]
        rcases Nat.lt_or_ge k j with h | h
        · exact hd k j hk hj h
        · exact fun e => hd j k hj hk (by omega) e.symm
      unfold unitR
      rw [if_neg (fun e => this e.symm), Rat.zero_mul])]
    have h1 : unitR free c = 0 := by
      unfold unitR
      rw [if_neg (fun e => hn _ hm (by rw [hat, e]))]
    have h2 : unitR (Pf (ledR ol qs) j) c = 1 := by
      unfold unitR
      rw [if_pos hja.symm]
    have h3 : Lf ol.length (ledR ol qs) j free = col ol.length (ledR ol qs)[j].e free := by
      unfold Lf
      rw [getD_lt _ _ hj]
    rw [h1, h2, h3]
    have : ((0 : Int) : Rat) = 0 := rfl
    rw [this]; grind
  · rw [mor_none _ _ (fun l hl e => by
      obtain ⟨j, hj, rfl⟩ := List.mem_iff_getElem.1 hl
      exact hx ⟨j, hj, by unfold Pf; rw [getD_lt _ _ hj]; exact e⟩), hdig]
    rw [sumR_zero (fun k hk => by
      unfold unitR
      rw [if_neg (fun e => hx ⟨k, hk, e.symm⟩), Rat.zero_mul])]
    grind
/-- All leads times what is more is nothing; so are all rows. -/
theorem led_annul {ol : List SubD} {qs : List QueD} (h8 : qs.length ≤ 8) {free : Nat} (hfr : free < ol.length) (hn : ∀ l ∈ ledR ol qs, l.at_ ≠ free) {q : Que} (hq : q ∈ qs.map QueD.v) :
    (sumR ol.length fun c => rowQ ol q c * val ((moreL (ledR ol qs) ol.length free).getD c default)) = 0 := by
  obtain ⟨rows, r1, r2⟩ := led_all ol qs h8
  obtain ⟨e, hi⟩ := r1.ok.inv
  have hp : ∀ j, j < (ledR ol qs).length → Pf (ledR ol qs) j < ol.length := fun j hj => by
    unfold Pf; rw [getD_lt _ _ hj]; exact (r1.ok.wf _ (List.getElem_mem hj)).2
  have hL : ∀ j, j < (ledR ol qs).length → (sumR ol.length fun c => Lf ol.length (ledR ol qs) j c * val ((moreL (ledR ol qs) ol.length free).getD c default)) = 0 := fun j hj => by
    have e1 : (sumR ol.length fun c => Lf ol.length (ledR ol qs) j c * val ((moreL (ledR ol qs) ol.length free).getD c default)) = sumR ol.length fun c => 1 * (Lf ol.length (ledR ol qs) j c * unitR free c) + (-1) * (sumR (ledR ol qs).length fun k => Lf ol.length (ledR ol qs) j c * unitR (Pf (ledR ol qs) k) c * Lf ol.length (ledR ol qs) k free) := sumR_congr fun c hc => by
      rw [mor_val h8 hfr hn hc]
      have e2 : (sumR (ledR ol qs).length fun k => Lf ol.length (ledR ol qs) j c * unitR (Pf (ledR ol qs) k) c * Lf ol.length (ledR ol qs) k free) = Lf ol.length (ledR ol qs) j c * sumR (ledR ol qs).length fun k => unitR (Pf (ledR ol qs) k) c * Lf ol.length (ledR ol qs) k free := by
        rw [Rat.mul_comm, sumR_scale]
        exact sumR_congr fun k _ => by grind
      rw [e2]; grind
    rw [e1, sumR_lin, sumR_swap]
    have e3 : (sumR ol.length fun c => Lf ol.length (ledR ol qs) j c * unitR free c) = Lf ol.length (ledR ol qs) j free := by
      rw [sumR_one hfr (fun c _ hcf => by unfold unitR; rw [if_neg hcf, Rat.mul_zero])]
      unfold unitR
      rw [if_pos rfl, Rat.mul_one]
    have e4 : (sumR (ledR ol qs).length fun k => sumR ol.length fun c => Lf ol.length (ledR ol qs) j c * unitR (Pf (ledR ol qs) k) c * Lf ol.length (ledR ol qs) k free) = Lf ol.length (ledR ol qs) j free := by
      have e5 : ∀ k, k < (ledR ol qs).length → (sumR ol.length fun c => Lf ol.length (ledR ol qs) j c * unitR (Pf (ledR ol qs) k) c * Lf ol.length (ledR ol qs) k free) = (if j = k then 1 else 0) * Lf ol.length (ledR ol qs) k free := fun k hk => by
        rw [sumR_one (hp k hk) (fun c _ hcf => by unfold unitR; rw [if_neg hcf]; grind)]
        have h1 := hi.unit j hj k hk
        unfold unitR
        rw [if_pos rfl, h1, Rat.mul_one]
      rw [sumR_congr e5, sumR_one hj (fun k _ hkj => by rw [if_neg (fun e => hkj e.symm), Rat.zero_mul]), if_pos rfl, Rat.one_mul]
    rw [e3, e4]; grind
  have e6 : (sumR ol.length fun c => rowQ ol q c * val ((moreL (ledR ol qs) ol.length free).getD c default)) = sumR ol.length fun c => sumR (ledR ol qs).length fun j => rowQ ol q (Pf (ledR ol qs) j) * Lf ol.length (ledR ol qs) j c * val ((moreL (ledR ol qs) ol.length free).getD c default) := sumR_congr fun c hc => by
    rw [r2 q hq c hc, sumR_scale]
  rw [e6, sumR_swap]
  exact sumR_zero fun j hj => by
    have e7 : (sumR ol.length fun c => rowQ ol q (Pf (ledR ol qs) j) * Lf ol.length (ledR ol qs) j c * val ((moreL (ledR ol qs) ol.length free).getD c default)) = rowQ ol q (Pf (ledR ol qs) j) * sumR ol.length fun c => Lf ol.length (ledR ol qs) j c * val ((moreL (ledR ol qs) ol.length free).getD c default) := by
      rw [Rat.mul_comm, sumR_scale]
      exact sumR_congr fun c _ => by grind
    rw [e7, hL j hj, Rat.mul_zero]
end Go.Proofs.YtbkekdbabkncfaaGreat

namespace Go.Proofs.YtbkekdbabkncfaaGreat
open Go.RowKit Go.Maps

def gcdL (l : List Int) : Int := l.foldl (fun g x => gcdI g x) 0
theorem gcdL_snoc (l : List Int) (x : Int) : gcdL (l ++ [x]) = gcdI (gcdL l) x := by unfold gcdL; rw [List.foldl_append]; rfl
theorem gcdL_nonneg : ∀ (l : List Int) (g : Int), 0 ≤ g → 0 ≤ l.foldl (fun g x => gcdI g x) g
  | [], _, h => h
  | x :: r, g, _ => gcdL_nonneg r _ (by show 0 ≤ gcdI g x; unfold gcdI; omega)
theorem gcdL_dvd : ∀ (l : List Int) (g : Int), (l.foldl (fun g x => gcdI g x) g ∣ g) ∧ ∀ x ∈ l, l.foldl (fun g x => gcdI g x) g ∣ x
  | [], g => ⟨Int.dvd_refl g, fun x h => by simp at h⟩
  | y :: r, g => by
    obtain ⟨h1, h2⟩ := gcdL_dvd r (gcdI g y)
    have a1 : gcdI g y ∣ g := by unfold gcdI; exact Int.gcd_dvd_left ..
    have a2 : gcdI g y ∣ y := by unfold gcdI; exact Int.gcd_dvd_right ..
    refine ⟨Int.dvd_trans h1 a1, fun x hx => ?_⟩
    rcases List.mem_cons.1 hx with rfl | hx
    · exact Int.dvd_trans h1 a2
    · exact h2 x hx
set_option maxRecDepth 100000 in
set_option maxHeartbeats 4000000 in
theorem common10_any (l : List Int) (A : Option Addr) (c : Nat) (w : World) (h : IntsAt w w.heap.size A l) (hb : ∀ x ∈ l, -4000000000000000000 ≤ x ∧ x ≤ 4000000000000000000) (hl : l.length ≤ 1000000) :
    Calls Tryz.prog 35 #[.slice A l.length c] w fun e w' => e = .returned (.int .i64 (gcdL l)) ∧ Below w.heap.size w w' := by
  have HH := Lib.hid h
  have HBn := Lib.hid hb
  clear h hb
  go_enter Tryz.func35, Tryz.ntmps35
  go_wp2_with fail
  go_loopw [3, 8] (fun cc ii wr => ∃ (i : Nat) (x : Int), i ≤ l.length ∧ cc = .int .i64 x ∧ ii = .int .i64 i ∧ Hid (Below w.heap.size w wr ∧ (0 ≤ x ∧ x ≤ 4000000000000000000) ∧ x = gcdL (l.take i))) (fun _ ii _ => l.length - (vInt ii).toNat)
  case atStart => exact ⟨0, 0, by omega, rfl, rfl, Lib.hid ⟨Below.refl _ _, by omega, rfl⟩⟩
  case round =>
    obtain ⟨i, x, hi, rfl, rfl, hR⟩ := hrel
    by_cases hlt : i < l.length
    · have hil : (i : Int) < (l.length : Int) := by omega
      obtain ⟨hB, hx, hxg⟩ := hR.out
      obtain ⟨bb, off, rfl, hbb, c0⟩ := ints_at (HH.out.later hB) hlt
      have hy := HBn.out _ (List.getElem_mem hlt)
      have hsn : gcdL (l.take (i + 1)) = gcdI x l[i] := by rw [List.take_succ_eq_append_getElem hlt, gcdL_snoc, hxg]
      generalize l[i] = y at *
      have HS := Lib.hid hsn
      have HX := Lib.hid hx
      clear hR hxg hsn hx
      obtain ⟨m, hm⟩ : ∃ m : Int, m = max y (-y) := ⟨_, rfl⟩
      have hmb : 0 ≤ m ∧ m ≤ 4000000000000000000 ∧ (m.natAbs : Int) = (y.natAbs : Int) := by omega
      have hgm : gcdI x m = gcdI x y := by
        show ((Nat.gcd x.natAbs m.natAbs : Nat) : Int) = ((Nat.gcd x.natAbs y.natAbs : Nat) : Int)
        have : m.natAbs = y.natAbs := by omega
        rw [this]
      have hwn : IntKind.i64.wrap (-y) = -y := IntWalk.i64_in _ (by omega)
      have HG0 := Lib.hid hgm
      have HM0 := Lib.hid hmb
      clear hgm hmb
      by_cases hsg : 0 ≤ y
      · have hsg2 : ¬ y < 0 := by omega
        go_wp2_with fail
        go_loopw [3, 5] (fun cc nn wq => ∃ (p q : Int), cc = .int .i64 p ∧ nn = .int .i64 q ∧ Hid (Below w.heap.size w wq ∧ gcdI p q = gcdI x y ∧ (0 ≤ p ∧ p ≤ 4000000000000000000) ∧ (0 ≤ q ∧ q ≤ 4000000000000000000))) (fun _ nn _ => (vInt nn).natAbs)
        case atStart => exact ⟨x, m, rfl, by first | (rw [hm]; done) | (rw [hm]; rfl) | (rw [hm]; congr 1; omega), Lib.hid ⟨hB, HG0.out, HX.out, HM0.out.1, HM0.out.2.1⟩⟩
        case round =>
          obtain ⟨p, q, rfl, rfl, hR⟩ := hrel
          obtain ⟨hB2, hG, hp, hq⟩ := hR.out
          clear hR
          by_cases hz : q = 0
          · have hz1 : (q != 0) = false := by simp [hz]
            have HZ : Hid (p = gcdI x y) := Lib.hid (by rw [← hG, hz, gcdI_zero]; omega)
            have HPb := Lib.hid hp
            clear hz hG hq hp
            go_wp2_with fail
            go_roundw
            case rel => exact ⟨i + 1, p, by omega, rfl, by go_num, Lib.hid ⟨hB2, HPb.out, by rw [HS.out]; exact HZ.out⟩⟩
            case measure => simp [vInt]; omega
          · have hz1 : (q != 0) = true := by simpa using hz
            have hz2 : (q == 0) = false := by simpa using hz
            have hz3 : ¬ q = 0 := hz
            have htm : p.tmod q = p % q := Int.tmod_eq_emod_of_nonneg hp.1
            have HG : Hid (gcdI q (p % q) = gcdI x y) := Lib.hid (by rw [← htm, gcdI_rem, hG])
            have hr : 0 ≤ p % q ∧ p % q ≤ 4000000000000000000 := by
              rw [← htm]
              have h1 : (p.tmod q).natAbs ≤ p.natAbs := by rw [Int.natAbs_tmod]; exact Nat.mod_le _ _
              have h2 := Int.tmod_nonneg q hp.1
              omega
            have hm9 : (p % q).natAbs < q.natAbs := by rw [← htm, Int.natAbs_tmod]; exact Nat.mod_lt _ (by omega)
            have HR := Lib.hid hr
            have HM := Lib.hid hm9
            have HQb := Lib.hid hq
            have hq1 := hq.1
            have hq2 := hq.2
            have hp1 := hp.1
            have hp2 := hp.2
            clear hz hG hr hm9 hq hp htm
            go_upto_region 7 with fail
            go_region
            go_wp2_with fail
            go_roundw
            case rel => exact ⟨q, p % q, rfl, rfl, Lib.hid ⟨hB2.drew, HG.out, HQb.out, HR.out⟩⟩
            case measure => simp only [vInt]; exact HM.out
      · have hsg2 : y < 0 := by omega
        go_wp2_with fail
        go_loopw [3, 5] (fun cc nn wq => ∃ (p q : Int), cc = .int .i64 p ∧ nn = .int .i64 q ∧ Hid (Below w.heap.size w wq ∧ gcdI p q = gcdI x y ∧ (0 ≤ p ∧ p ≤ 4000000000000000000) ∧ (0 ≤ q ∧ q ≤ 4000000000000000000))) (fun _ nn _ => (vInt nn).natAbs)
        case atStart => exact ⟨x, m, rfl, by first | (rw [hm]; done) | (rw [hm]; rfl) | (rw [hm]; congr 1; omega), Lib.hid ⟨hB, HG0.out, HX.out, HM0.out.1, HM0.out.2.1⟩⟩
        case round =>
          obtain ⟨p, q, rfl, rfl, hR⟩ := hrel
          obtain ⟨hB2, hG, hp, hq⟩ := hR.out
          clear hR
          by_cases hz : q = 0
          · have hz1 : (q != 0) = false := by simp [hz]
            have HZ : Hid (p = gcdI x y) := Lib.hid (by rw [← hG, hz, gcdI_zero]; omega)
            have HPb := Lib.hid hp
            clear hz hG hq hp
            go_wp2_with fail
            go_roundw
            case rel => exact ⟨i + 1, p, by omega, rfl, by go_num, Lib.hid ⟨hB2, HPb.out, by rw [HS.out]; exact HZ.out⟩⟩
            case measure => simp [vInt]; omega
          · have hz1 : (q != 0) = true := by simpa using hz
            have hz2 : (q == 0) = false := by simpa using hz
            have hz3 : ¬ q = 0 := hz
            have htm : p.tmod q = p % q := Int.tmod_eq_emod_of_nonneg hp.1
            have HG : Hid (gcdI q (p % q) = gcdI x y) := Lib.hid (by rw [← htm, gcdI_rem, hG])
            have hr : 0 ≤ p % q ∧ p % q ≤ 4000000000000000000 := by
              rw [← htm]
              have h1 : (p.tmod q).natAbs ≤ p.natAbs := by rw [Int.natAbs_tmod]; exact Nat.mod_le _ _
              have h2 := Int.tmod_nonneg q hp.1
              omega
            have hm9 : (p % q).natAbs < q.natAbs := by rw [← htm, Int.natAbs_tmod]; exact Nat.mod_lt _ (by omega)
            have HR := Lib.hid hr
            have HM := Lib.hid hm9
            have HQb := Lib.hid hq
            have hq1 := hq.1
            have hq2 := hq.2
            have hp1 := hp.1
            have hp2 := hp.2
            clear hz hG hr hm9 hq hp htm
            go_upto_region 7 with fail
            go_region
            go_wp2_with fail
            go_roundw
            case rel => exact ⟨q, p % q, rfl, rfl, Lib.hid ⟨hB2.drew, HG.out, HQb.out, HR.out⟩⟩
            case measure => simp only [vInt]; exact HM.out
    · have hil : ¬ (i : Int) < (l.length : Int) := by omega
      obtain rfl : i = l.length := by omega
      obtain ⟨hB, _, hx2⟩ := hR.out
      have HX2 := Lib.hid hx2
      clear hR hx2
      go_wp2_with fail
      all_goals go_ret
      all_goals exact ⟨ret_int (by rw [HX2.out, List.take_length]), hB⟩
end Go.Proofs.YtbkekdbabkncfaaGreat

namespace Go.Proofs.YtbkekdbabkncfaaGreat
open Go.RowKit Go.Maps Det

theorem mlt_neg {l : List Frc} {w x : Int} (h : x ∈ mltL w l) : -x ∈ mltL (-w) l := by
  unfold mltL at h ⊢
  obtain ⟨f, hf, rfl⟩ := List.mem_map.1 h
  exact List.mem_map.2 ⟨f, hf, by rw [Int.neg_tdiv, Int.neg_mul]⟩
theorem mor_length (ls : List Led) (n free : Nat) : (moreL ls n free).length = n := by
  unfold moreL
  rw [mor_len, dig_len]
/-- What all who are asked for count more, of the first k. -/
def askSum (N : List Int) (ol : List SubD) (q : Que) : Nat → Int
  | 0 => 0
  | k + 1 => askSum N ol q k + if (askL q ol).getD k false = true then N.getD k 0 else 0
theorem ask_sum {ol : List SubD} {q : Que} {mo : List Frc} {w : Int} (h : ∀ f ∈ mo, FrcOk f) (hd : ∀ f ∈ mo, f.d ∣ w) (hl : mo.length = ol.length) : ∀ k, k ≤ ol.length → ((askSum (mltL w mo) ol q k : Int) : Rat) = (w : Rat) * sumR k fun c => rowQ ol q c * val (mo.getD c default)
  | 0, _ => by show (0 : Rat) = (w : Rat) * 0; grind
  | k + 1, hk => by
    have ih := ask_sum (q := q) h hd hl k (by omega)
    have e2 := mlt_val h hd (i := k) (by omega)
    have e3 := row_bit ol q (c := k) (by omega)
    have e4 : (askL q ol).getD k false = askB (ol[k]'(by omega)).v q := by
      rw [getD_lt _ _ (by rw [askL_len]; omega)]
      unfold askL
      rw [List.getElem_map]
    simp only [askSum, sumR]
    rw [Rat.intCast_add, ih, e4, e3, Rat.mul_add]
    congr 1
    split
    · rw [e2]; grind
    · show (0 : Rat) = _
      grind
/-- What Hide returns: all sums stay, the one asked for counts more, and nothing above 1 divides all. -/
theorem hide_spec {ol : List SubD} {qs : List QueD} (h8 : qs.length ≤ 8) {a k : Nat} (ha : a < ol.length) (hk : hidF (ledR ol qs) a = some k) :
    (hidV (moreL (ledR ol qs) ol.length k) a).length = ol.length ∧ (∀ q ∈ qs.map QueD.v, askSum (hidV (moreL (ledR ol qs) ol.length k) a) ol q ol.length = 0) ∧ 0 < (hidV (moreL (ledR ol qs) ol.length k) a).getD a 0 ∧ gcdL (hidV (moreL (ledR ol qs) ol.length k) a) = 1 := by
  obtain ⟨rows, r1, _⟩ := led_all ol qs h8
  obtain ⟨e, hi⟩ := r1.ok.inv
  have hkn := hid_lt r1.ok ha hk
  -- the one who is free is not led; and the one asked for counts more or less
  have hfree : (∀ l ∈ ledR ol qs, l.at_ ≠ k) ∧ (k = a ∨ ∃ l ∈ ledR ol qs, l.at_ = a ∧ col ol.length l.e k ≠ 0) := by
    unfold hidF at hk
    cases hf : fndL (ledR ol qs) a with
    | none =>
      rw [hf] at hk
      simp only [Option.some.injEq] at hk
      unfold fndL at hf
      rw [List.find?_eq_none] at hf
      refine ⟨fun l hl => ?_, .inl hk.symm⟩
      obtain ⟨i, hi', rfl⟩ := List.mem_iff_getElem.1 hl
      have := hf i (List.mem_range.2 hi')
      rw [getD_lt _ _ hi'] at this
      rw [← hk]
      simpa using this
    | some i =>
      rw [hf] at hk
      unfold fndL at hf
      have hir := List.mem_of_find?_eq_some hf
      rw [List.mem_range] at hir
      have hia := List.find?_some hf
      rw [getD_lt _ _ hir] at hia
      have hia2 : (ledR ol qs)[i].at_ = a := of_decide_eq_true hia
      simp only [getD_lt (ledR ol qs) _ hir] at hk
      have hm : (ledR ol qs)[i] ∈ ledR ol qs := List.getElem_mem hir
      have hw := r1.ok.wf _ hm
      unfold fndF at hk
      have hs := List.find?_some hk
      rw [Bool.and_eq_true, someF_ok (getD_ok hw.1.fo k), hw.1.fget hkn] at hs
      have hne : col ol.length (ledR ol qs)[i].e k ≠ 0 := of_decide_eq_true hs.2
      have hgt : (ledR ol qs)[i].at_ + 1 ≤ k := of_decide_eq_true hs.1
      refine ⟨fun l hl hlk => ?_, .inr ⟨_, hm, hia2, hne⟩⟩
      obtain ⟨j, hj, rfl⟩ := List.mem_iff_getElem.1 hl
      have hu := hi.unit i hir j hj
      unfold Lf Pf at hu
      rw [getD_lt _ _ hir, getD_lt _ _ hj, hlk] at hu
      by_cases hij : i = j
      · subst hij; omega
      · rw [if_neg hij] at hu
        exact hne hu
  obtain ⟨hn, hcase⟩ := hfree
  obtain ⟨E, hE, hB, hO⟩ := r1.ok.whole (led_ok ol qs h8).2.2
  have hEb : IntB 40320 (E : Rat) := ⟨E, rfl, hB⟩
  have hdg : AllOver E (digL (2 ^ k) ol.length) := fun x hx => ⟨(dig_mem hx).1, ((dig_mem hx).2.intB.mul hEb).mono (by decide)⟩
  have hm : AllOver E (moreL (ledR ol qs) ol.length k) := mor_over (ledR ol qs) _ (fun l hl => ⟨(r1.ok.wf l hl).1, hO l hl⟩) hkn hdg
  obtain ⟨_, i2, _, i4, _, _⟩ := all_clr hE hB hm
  have hfo : ∀ f ∈ moreL (ledR ol qs) ol.length k, FrcOk f := fun f hf => (hm f hf).1
  have hml := mor_length (ledR ol qs) ol.length k
  have hann := fun (q : Que) (hq : q ∈ qs.map QueD.v) => led_annul (ol := ol) (qs := qs) h8 hkn hn hq
  have hv1 : val ((moreL (ledR ol qs) ol.length k).getD k default) = 1 := by
    rw [mor_val h8 hkn hn hkn, sumR_zero (fun j hj => by
      unfold unitR
      rw [if_neg (fun e => hn _ (List.getElem_mem hj) (by unfold Pf at e; rw [getD_lt _ _ hj] at e; exact e.symm)), Rat.zero_mul])]
    unfold unitR
    rw [if_pos rfl]; grind
  have hva : val ((moreL (ledR ol qs) ol.length k).getD a default) ≠ 0 := by
    rcases hcase with rfl | ⟨l, hl, hla, hne⟩
    · rw [hv1]; decide
    · have hw := r1.ok.wf l hl
      unfold moreL
      rw [mor_some _ _ (led_distinct h8) hl hla (by rw [dig_len]; exact ha), (subF_ok (intF_ok 0).1 (getD_ok hw.1.fo k)).2, (intF_ok 0).2, hw.1.fget hkn]
      intro h0
      apply hne
      have : ((0 : Int) : Rat) = 0 := rfl
      rw [this] at h0
      grind
  generalize moreL (ledR ol qs) ol.length k = mo at *
  have hS : ∀ w : Int, (∀ f ∈ mo, f.d ∣ w) → ∀ q ∈ qs.map QueD.v, askSum (mltL w mo) ol q ol.length = 0 := fun w hd q hq => by
    have h1 := ask_sum (q := q) hfo hd hml ol.length (Nat.le_refl _)
    rw [hann q hq, Rat.mul_zero] at h1
    exact Rat.intCast_eq_zero_iff.1 h1
  have hfa := getD_ok hfo a
  have hna : (mo.getD a default).n ≠ 0 := fun e0 => hva ((val_zero hfa).2 e0)
  have hP : ∀ w : Int, (∀ f ∈ mo, f.d ∣ w) → (mltL w mo).getD a 0 * (mo.getD a default).d = (mo.getD a default).n * w := fun w hd => by
    have h1 := mlt_val hfo hd (i := a) (by omega)
    have h2 := val_mul hfa
    have h3 : (((mltL w mo).getD a 0 * (mo.getD a default).d : Int) : Rat) = (((mo.getD a default).n * w : Int) : Rat) := by
      rw [Rat.intCast_mul, Rat.intCast_mul, h1, ← h2]; grind
    exact Rat.intCast_inj.1 h3
  have hK : ∀ w : Int, (∀ f ∈ mo, f.d ∣ w) → (mltL w mo).getD k 0 = w := fun w hd => by
    have h1 := mlt_val hfo hd (i := k) (by omega)
    rw [hv1, Rat.one_mul] at h1
    exact Rat.intCast_inj.1 h1
  have hmemK : ∀ w : Int, (mltL w mo).getD k 0 ∈ mltL w mo := fun w => by
    rw [getD_lt _ _ (by rw [mlt_len, hml]; exact hkn)]
    exact List.getElem_mem _
  have hd1 := hfa.1
  have hneg : ∀ f ∈ mo, f.d ∣ -clrL 1 mo := fun f hf => (Int.dvd_neg).2 (i4 f hf)
  unfold hidV hidM
  by_cases hs : (mo.getD a default).n < 0
  · rw [if_pos hs]
    refine ⟨by rw [mlt_len, hml], hS _ hneg, ?_, ?_⟩
    · have h1 := hP _ hneg
      have h2 : 0 < (mo.getD a default).n * -clrL 1 mo := Int.mul_pos_of_neg_of_neg hs (by omega)
      rw [← h1] at h2
      exact Int.pos_of_mul_pos_left h2 (by omega)
    · obtain ⟨_, g2⟩ := gcdL_dvd (mltL (-clrL 1 mo) mo) 0
      have g3 : gcdL (mltL (-clrL 1 mo) mo) ∣ clrL 1 mo := by
        have := g2 _ (hmemK _)
        rw [hK _ hneg] at this
        exact (Int.dvd_neg).1 this
      have g4 := gcdL_nonneg (mltL (-clrL 1 mo) mo) 0 (Int.le_refl 0)
      have g5 : 1 ≤ gcdL (mltL (-clrL 1 mo) mo) := by
        by_cases h0 : gcdL (mltL (-clrL 1 mo) mo) = 0
        · rw [h0] at g3
          have := Int.zero_dvd.1 g3
          omega
        · unfold gcdL at h0 ⊢; omega
      exact how_prime rfl hfo i4 i2 g5 g3 (fun x hx => by
        have := g2 _ (mlt_neg hx)
        exact (Int.dvd_neg).1 this)
  · rw [if_neg hs]
    refine ⟨by rw [mlt_len, hml], hS _ i4, ?_, ?_⟩
    · have h1 := hP _ i4
      have h2 : 0 < (mo.getD a default).n * clrL 1 mo := Int.mul_pos (by omega) (by omega)
      rw [← h1] at h2
      exact Int.pos_of_mul_pos_left h2 (by omega)
    · obtain ⟨_, g2⟩ := gcdL_dvd (mltL (clrL 1 mo) mo) 0
      have g3 : gcdL (mltL (clrL 1 mo) mo) ∣ clrL 1 mo := by
        have := g2 _ (hmemK _)
        rwa [hK _ i4] at this
      have g4 := gcdL_nonneg (mltL (clrL 1 mo) mo) 0 (Int.le_refl 0)
      have g5 : 1 ≤ gcdL (mltL (clrL 1 mo) mo) := by
        by_cases h0 : gcdL (mltL (clrL 1 mo) mo) = 0
        · rw [h0] at g3
          have := Int.zero_dvd.1 g3
          omega
        · unfold gcdL at h0 ⊢; omega
      exact how_prime rfl hfo i4 i2 g5 g3 (fun x hx => g2 _ hx)
end Go.Proofs.YtbkekdbabkncfaaGreat

namespace Go.Proofs.YtbkekdbabkncfaaGreat
open Go.RowKit Go.Maps Det

/-- One who is led, and whose number is made of no other one's. -/
def FollowAt (ls : List Led) (a : Nat) : Prop := ∃ l ∈ ls, l.at_ = a ∧ freeB l = false
theorem fndL_at {ls : List Led} {a i : Nat} (h : fndL ls a = some i) : ∃ hi : i < ls.length, ls[i].at_ = a := by
  unfold fndL at h
  have hi := List.mem_of_find?_eq_some h
  rw [List.mem_range] at hi
  have h2 := List.find?_some h
  rw [getD_lt _ _ hi] at h2
  exact ⟨hi, of_decide_eq_true h2⟩
theorem fndL_no {ls : List Led} {a : Nat} (h : fndL ls a = none) : ∀ l ∈ ls, l.at_ ≠ a := fun l hl => by
  unfold fndL at h
  rw [List.find?_eq_none] at h
  obtain ⟨i, hi, rfl⟩ := List.mem_iff_getElem.1 hl
  have := h i (List.mem_range.2 hi)
  rw [getD_lt _ _ hi] at this
  simpa using this
theorem follow_one {ls : List Led} (hp : ls.Pairwise (fun x y => x.at_ ≠ y.at_)) {a i : Nat} (h : fndL ls a = some i) : ∃ hi : i < ls.length, ls[i].at_ = a ∧ (FollowAt ls a ↔ freeB ls[i] = false) := by
  obtain ⟨hi, hat⟩ := fndL_at h
  refine ⟨hi, hat, fun ⟨l, hl, hla, hf⟩ => ?_, fun hf => ⟨_, List.getElem_mem hi, hat, hf⟩⟩
  obtain ⟨j, hj, rfl⟩ := List.mem_iff_getElem.1 hl
  have hd := List.pairwise_iff_getElem.1 hp
  rcases Nat.lt_trichotomy i j with h1 | h1 | h1
  · exact absurd (hat.trans hla.symm) (hd i j hi hj h1)
  · subst h1; exact hf
  · exact absurd (hla.trans hat.symm) (hd j i hj hi h1)
theorem how_iff {ls : List Led} (hp : ls.Pairwise (fun x y => x.at_ ≠ y.at_)) (a : Nat) : (∀ l, howE ls a = some l → l ∈ ls ∧ l.at_ = a ∧ freeB l = false) ∧ (howE ls a = none ↔ ¬ FollowAt ls a) := by
  unfold howE
  cases hf : fndL ls a with
  | none => exact ⟨fun l hl => by simp at hl, fun _ ⟨l, hl, hla, _⟩ => fndL_no hf l hl hla, fun _ => rfl⟩
  | some i =>
    obtain ⟨hi, hat, hiff⟩ := follow_one hp hf
    simp only [getD_lt ls _ hi]
    rw [hiff]
    unfold freeB
    by_cases hs : (fndF ls[i].e.fs (ls[i].at_ + 1)).isSome = true
    · rw [if_pos hs]
      exact ⟨fun l hl => by simp at hl, fun _ h => (by rw [hs] at h; exact absurd h (by decide)), fun _ => rfl⟩
    · rw [if_neg hs]
      refine ⟨fun l hl => ?_, fun h => (by simp at h), fun h => absurd (by simpa using hs) h⟩
      simp only [Option.some.injEq] at hl
      subst hl
      exact ⟨List.getElem_mem hi, hat, by simpa using hs⟩
theorem hid_iff {ls : List Led} (hp : ls.Pairwise (fun x y => x.at_ ≠ y.at_)) (a : Nat) : hidF ls a = none ↔ FollowAt ls a := by
  unfold hidF
  cases hf : fndL ls a with
  | none => exact ⟨fun h => by simp at h, fun ⟨l, hl, hla, _⟩ => absurd hla (fndL_no hf l hl)⟩
  | some i =>
    obtain ⟨hi, hat, hiff⟩ := follow_one hp hf
    simp only [getD_lt ls _ hi]
    rw [hiff]
    unfold freeB
    cases fndF ls[i].e.fs (ls[i].at_ + 1) <;> simp
theorem fndI_at {l : List Int} {a : Int} {i : Nat} (h : fndI l a = some i) : ∃ hi : i < l.length, l[i] = a := by
  have hi := fndI_lt h
  unfold fndI at h
  have h2 := List.find?_some h
  rw [getD_lt _ _ hi] at h2
  exact ⟨hi, of_decide_eq_true h2⟩
theorem ded_follow {ol : List SubD} {qs : List QueD} (h8 : qs.length ≤ 8) (hn : (ol.map fun x => x.v.id).Nodup) {id : Int} {a : Nat} (ha : fndI (idsR ol) id = some a) : id ∈ dedR ol qs ↔ FollowAt (ledR ol qs) a := by
  obtain ⟨hal, hai⟩ := fndI_at ha
  unfold dedR
  rw [(srt_perm _).mem_iff]
  unfold dedL
  rw [List.mem_map]
  constructor
  · rintro ⟨l, hl, hid⟩
    rw [List.mem_filter] at hl
    have hx := ((led_ok ol qs h8).2.1.wf l hl.1).2
    have hx2 : l.at_ < (idsR ol).length := by unfold idsR; simpa using hx
    rw [getD_lt _ _ hx2, ← hai] at hid
    exact ⟨l, hl.1, (List.getElem_inj hn).1 hid, by simpa using hl.2⟩
  · rintro ⟨l, hl, rfl, hf⟩
    exact ⟨l, List.mem_filter.2 ⟨hl, by simp [hf]⟩, by rw [getD_lt _ _ hal, hai]⟩
end Go.Proofs.YtbkekdbabkncfaaGreat

namespace Go.Proofs.YtbkekdbabkncfaaGreat
open Go.RowKit Go.Maps Det

theorem intInfoW : (Tryz.prog.info? 3).map (fun i => (i.zero, i.size, i.bytes)) = some (some (.int .i64 0), 1, 8) := by kernel_rfl
section
variable {columns : Int} {l : List SubD} {A : Option Addr} {c : Nat} {qs : List QueD} {S : Option Addr} {sc : Nat} {w : World}
theorem Rdy.cols (h : Rdy w columns l A qs S) {x : SubD} (hx : x ∈ l) {y : QueD} (hy : y ∈ qs) : (x.v.vals.length : Int) = columns ∧ columns ≤ 5 ∧ y.v.wheres.length ≤ 4 ∧ (∀ i, (hi : i < y.v.wheres.length) → 0 ≤ y.v.wheres[i].col ∧ y.v.wheres[i].col < columns) ∧ (y.v.col = -1 ∨ 0 ≤ y.v.col ∧ y.v.col < columns) := by
  obtain ⟨hc, _, hs, _⟩ := ask_parts h.tab
  obtain ⟨_, h2, _⟩ := sub_parts (hs x.v (List.mem_map_of_mem hx))
  obtain ⟨q1, _, q3, q4⟩ := que_parts ((avl_parts h.avl).2 y hy)
  exact ⟨h2, hc.2, q1, q3, by omega⟩
theorem Rdy.asked (h : Rdy w columns l A qs S) {x : SubD} (hx : x ∈ l) {y : QueD} (hy : y ∈ qs) (W' : World) (hb : Below w.heap.size w W') :
    Calls Tryz.prog 32 #[.agg #[.int .i64 x.v.id, .slice x.V x.v.vals.length x.c], .agg #[.slice y.W y.v.wheres.length y.c, .int .i64 y.v.col, .int .i64 y.v.clip, .int .i64 y.v.step]] W' fun e w' => e = .returned (.bool (askB x.v y.v)) ∧ Below W'.heap.size W' w' := by
  obtain ⟨h2, h3, q1, q3, _⟩ := h.cols hx hy
  exact asked10_any x.v.id x.v.vals x.V x.c y.v.wheres y.v.col y.v.clip y.v.step y.W y.c W' ((h.sub.each x hx).later hb) ((h.que.each y hy).later hb) (fun j hj => by
    have := q3 j hj
    exact ⟨y.v.wheres[j].col.toNat, by omega, by omega⟩) (by omega)
end
end Go.Proofs.YtbkekdbabkncfaaGreat
