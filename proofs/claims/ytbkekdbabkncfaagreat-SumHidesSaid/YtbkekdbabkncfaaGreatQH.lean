/- How everybody could count otherwise, or the error, is the same by the program and by the reference; table and questions stay: SumHides returns true, whatever lies in memory, and each argument reads afterwards as it read before. Conditions: none but those of the statement. -/
import Derived.Test.YtbkekdbabkncfaaGreatQC
import Derived.Test.YtbkekdbabkncfaaGreatV6
import Derived.Test.YtbkekdbabkncfaaGreatUSOpen
import Derived.Test.YtbkekdbabkncfaaGreatRows

namespace Go.Proofs.YtbkekdbabkncfaaGreat
open Go.RowKit Go.Maps Det

/-- The one who is free is not led. -/
theorem hid_free {ol : List SubD} {qs : List QueD} (h8 : qs.length ≤ 8) {a k : Nat} (ha : a < ol.length) (hk : hidF (ledR ol qs) a = some k) : k < ol.length ∧ ∀ l ∈ ledR ol qs, l.at_ ≠ k := by
  obtain ⟨rows, r1, _⟩ := led_all ol qs h8
  obtain ⟨e, hi⟩ := r1.ok.inv
  have hkn := hid_lt r1.ok ha hk
  refine ⟨hkn, ?_⟩
  unfold hidF at hk
  cases hf : fndL (ledR ol qs) a with
  | none =>
    rw [hf] at hk
    simp only [Option.some.injEq] at hk
    intro l hl
    rw [← hk]
    exact fndL_no hf l hl
  | some i =>
    rw [hf] at hk
    obtain ⟨hir, hia2⟩ := fndL_at hf
    simp only [getD_lt (ledR ol qs) _ hir] at hk
    have hm : (ledR ol qs)[i] ∈ ledR ol qs := List.getElem_mem hir
    have hw := r1.ok.wf _ hm
    unfold fndF at hk
    have hs := List.find?_some hk
    rw [Bool.and_eq_true, someF_ok (getD_ok hw.1.fo k), hw.1.fget hkn] at hs
    have hne : col ol.length (ledR ol qs)[i].e k ≠ 0 := of_decide_eq_true hs.2
    have hgt : (ledR ol qs)[i].at_ + 1 ≤ k := of_decide_eq_true hs.1
    intro l hl hlk
    obtain ⟨j, hj, rfl⟩ := List.mem_iff_getElem.1 hl
    have hu := hi.unit i hir j hj
    unfold Lf Pf at hu
    rw [getD_lt _ _ hir, getD_lt _ _ hj, hlk] at hu
    by_cases hij : i = j
    · subst hij; omega
    · rw [if_neg hij] at hu
      exact hne hu
/-- What one counts more. -/
def chgF (ls : List Led) (k c : Nat) : Frc := if c = k then ⟨1, 1⟩ else match fndL ls c with
  | none => ⟨0, 1⟩
  | some i => subF ⟨0, 1⟩ ((ls.getD i ⟨⟨[], []⟩, 0⟩).e.fs.getD k default)
theorem dig_one (k n c : Nat) (hc : c < n) : (digL (2 ^ k) n).getD c default = if c = k then ⟨1, 1⟩ else ⟨0, 1⟩ := by
  rw [getD_lt _ _ (by rw [dig_len]; exact hc)]
  unfold digL
  rw [List.getElem_map, List.getElem_range, two_pow_bit]
  split <;> rfl
theorem mor_get {ol : List SubD} {qs : List QueD} (h8 : qs.length ≤ 8) {k : Nat} (hn : ∀ l ∈ ledR ol qs, l.at_ ≠ k) {c : Nat} (hc : c < ol.length) : (moreL (ledR ol qs) ol.length k).getD c default = chgF (ledR ol qs) k c := by
  unfold moreL chgF
  by_cases hck : c = k
  · rw [if_pos hck, mor_none _ _ (by rw [hck]; exact hn), dig_one k _ c hc, if_pos hck]
  · rw [if_neg hck]
    cases hf : fndL (ledR ol qs) c with
    | none => rw [mor_none _ _ (fndL_no hf), dig_one k _ c hc, if_neg hck]
    | some i =>
      obtain ⟨hir, hia⟩ := fndL_at hf
      simp only [getD_lt _ _ hir]
      rw [mor_some _ _ (led_distinct h8) (List.getElem_mem hir) hia (by rw [dig_len]; exact hc)]
      rfl
theorem mor_at {ol : List SubD} {qs : List QueD} (h8 : qs.length ≤ 8) {k : Nat} (hn : ∀ l ∈ ledR ol qs, l.at_ ≠ k) {c : Nat} (hc : c < (moreL (ledR ol qs) ol.length k).length) : (moreL (ledR ol qs) ol.length k)[c] = chgF (ledR ol qs) k c := by
  rw [← mor_get h8 hn (by rw [mor_length] at hc; exact hc), getD_lt _ _ hc]
theorem mlt_negL (w : Int) (l : List Frc) : mltL (-w) l = (mltL w l).map fun x => -x := by
  unfold mltL
  rw [List.map_map]
  refine List.map_congr_left fun f _ => ?_
  show (-w).tdiv f.d * f.n = -(w.tdiv f.d * f.n)
  rw [Int.neg_tdiv, Int.neg_mul]
theorem gcdI_negr (a b : Int) : gcdI a (-b) = gcdI a b := by unfold gcdI; rw [Int.gcd_neg]
theorem gcdL_negL : ∀ (l : List Int) (g : Int), (l.map fun x => -x).foldl (fun g x => gcdI g x) g = l.foldl (fun g x => gcdI g x) g
  | [], _ => rfl
  | x :: r, g => by
    rw [List.map_cons, List.foldl_cons, List.foldl_cons, gcdI_negr]
    exact gcdL_negL r _
theorem hide_num {ol : List SubD} {qs : List QueD} (h8 : qs.length ≤ 8) (h16 : ol.length ≤ 16) {a k : Nat} (ha : a < ol.length) (hk : hidF (ledR ol qs) a = some k) :
    NumOk (moreL (ledR ol qs) ol.length k) ∧ (∀ x ∈ mltL (clrL 1 (moreL (ledR ol qs) ol.length k)) (moreL (ledR ol qs) ol.length k), -1700000000 ≤ x ∧ x ≤ 1700000000) ∧
    hidV (moreL (ledR ol qs) ol.length k) a = if (mltL (clrL 1 (moreL (ledR ol qs) ol.length k)) (moreL (ledR ol qs) ol.length k)).getD a 0 < 0 then (mltL (clrL 1 (moreL (ledR ol qs) ol.length k)) (moreL (ledR ol qs) ol.length k)).map fun x => -x else mltL (clrL 1 (moreL (ledR ol qs) ol.length k)) (moreL (ledR ol qs) ol.length k) := by
  obtain ⟨_, hok, hl8⟩ := led_ok ol qs h8
  obtain ⟨E, hE, hB, hO⟩ := hok.whole hl8
  have hkn := (hid_free h8 ha hk).1
  have hEb : IntB 40320 (E : Rat) := ⟨E, rfl, hB⟩
  have hdg : AllOver E (digL (2 ^ k) ol.length) := fun x hx => ⟨(dig_mem hx).1, ((dig_mem hx).2.intB.mul hEb).mono (by decide)⟩
  have hm : AllOver E (moreL (ledR ol qs) ol.length k) := mor_over (ledR ol qs) _ (fun l hl => ⟨(hok.wf l hl).1, hO l hl⟩) hkn hdg
  obtain ⟨_, i2, i3, i4, _, _⟩ := all_clr hE hB hm
  have hg1 := (hide_spec h8 ha hk).2.2.2
  have hgl : gcdL (mltL (clrL 1 (moreL (ledR ol qs) ol.length k)) (moreL (ledR ol qs) ol.length k)) = 1 := by
    unfold hidV hidM at hg1
    split at hg1
    · rw [mlt_negL] at hg1
      unfold gcdL at hg1 ⊢
      rwa [gcdL_negL] at hg1
    · exact hg1
  have hml : (moreL (ledR ol qs) ol.length k).length = ol.length := mor_length _ _ _
  have h5 := Nat.le_of_dvd (by omega) (Int.natAbs_dvd_natAbs.2 i3)
  refine ⟨num_ok hE hB hm (by rw [hml]; omega) hgl, ?_, ?_⟩
  · intro y hy
    unfold mltL at hy
    obtain ⟨f, hf, rfl⟩ := List.mem_map.1 hy
    have h1 := (over_dvd (hm f hf).1 (hm f hf).2 hE).2
    have h2 : ((clrL 1 (moreL (ledR ol qs) ol.length k)).tdiv f.d).natAbs ≤ (clrL 1 (moreL (ledR ol qs) ol.length k)).natAbs := by rw [Int.natAbs_tdiv]; exact Nat.div_le_self _ _
    have h3 : ((clrL 1 (moreL (ledR ol qs) ol.length k)).tdiv f.d * f.n).natAbs ≤ 40320 * 40320 := by
      rw [Int.natAbs_mul]
      exact Nat.mul_le_mul (by omega) h1
    omega
  · unfold hidV hidM
    generalize moreL (ledR ol qs) ol.length k = mo at *
    have hal : a < mo.length := by rw [hml]; exact ha
    have hf := hm _ (List.getElem_mem hal)
    obtain ⟨t, ht⟩ := i4 _ (List.getElem_mem hal)
    have hd1 := hf.1.1
    have e1 : (mltL (clrL 1 mo) mo).getD a 0 = t * mo[a].n := by
      rw [getD_lt _ _ (by rw [mlt_len]; exact hal)]
      unfold mltL
      rw [List.getElem_map]
      congr 1
      rw [ht, Int.mul_tdiv_cancel_left _ (by omega)]
    have ht1 : 0 < t := by
      by_cases h0 : 0 < t
      · exact h0
      · have h : t ≤ 0 := by omega
        have : mo[a].d * t ≤ 0 := Int.mul_nonpos_of_nonneg_of_nonpos (by omega) h
        omega
    rw [e1, getD_lt _ _ hal]
    by_cases hneg : mo[a].n < 0
    · rw [if_pos hneg, if_pos (Int.mul_neg_of_pos_of_neg ht1 hneg), mlt_negL]
    · rw [if_neg hneg, if_neg (by have := Int.mul_nonneg (Int.le_of_lt ht1) (show 0 ≤ mo[a].n by omega); omega)]
/-- The scan for one who is not alone. -/
def scnF (cs : List Frc) (a n p : Nat) : Option Nat := (List.range n).find? fun j => decide (p ≤ j) && (decide (j ≠ a) && decide ((cs.getD j default).n ≠ 0))
theorem scn_end (cs : List Frc) (a n : Nat) : scnF cs a n n = none := by
  unfold scnF
  rw [List.find?_eq_none]
  intro j hj
  rw [List.mem_range] at hj
  rw [decide_eq_false (by omega : ¬ n ≤ j)]; simp
theorem scn_step {cs : List Frc} {a n p : Nat} (hp : p < n) : scnF cs a n p = if p ≠ a ∧ (cs.getD p default).n ≠ 0 then some p else scnF cs a n (p + 1) := by
  split
  · rename_i h
    unfold scnF
    rw [List.find?_range_eq_some]
    refine ⟨by rw [decide_eq_true (Nat.le_refl p), decide_eq_true h.1, decide_eq_true h.2]; rfl, List.mem_range.2 hp, fun j hj => by rw [decide_eq_false (by omega : ¬ p ≤ j)]; rfl⟩
  · rename_i h
    have hpf : (decide (p ≠ a) && decide ((cs.getD p default).n ≠ 0)) = false := by
      by_cases h1 : p ≠ a
      · have h2 : ¬ (cs.getD p default).n ≠ 0 := fun h2 => h ⟨h1, h2⟩
        rw [decide_eq_false h2, Bool.and_false]
      · rw [decide_eq_false h1, Bool.false_and]
    unfold scnF
    congr 1
    funext j
    by_cases hj : j = p
    · subst hj
      rw [hpf, Bool.and_false, Bool.and_false]
    · by_cases h3 : p ≤ j
      · rw [decide_eq_true h3, decide_eq_true (by omega : p + 1 ≤ j)]
      · rw [decide_eq_false h3, decide_eq_false (by omega : ¬ p + 1 ≤ j)]
theorem scn_hid {ol : List SubD} {qs : List QueD} (h8 : qs.length ≤ 8) {x : Led} (hx : x ∈ ledR ol qs) : scnF (rowL x.e) x.at_ ol.length 0 = fndF x.e.fs (x.at_ + 1) := by
  obtain ⟨rows, r1, _⟩ := led_all ol qs h8
  have hw := r1.ok.wf x hx
  have hn : ∀ c, c < ol.length → (((rowL x.e).getD c default).n = 0 ↔ col ol.length x.e c = 0) := fun c hc => by
    rw [row_get hw.1 hc, ← val_zero (getD_ok hw.1.fo c), hw.1.fget hc]
  have key : ∀ j, j < ol.length → (decide (0 ≤ j) && (decide (j ≠ x.at_) && decide (((rowL x.e).getD j default).n ≠ 0))) = (decide (x.at_ + 1 ≤ j) && someF (x.e.fs.getD j default)) := fun j hj => by
    rw [decide_eq_true (Nat.zero_le j), Bool.true_and, someF_ok (getD_ok hw.1.fo j), hw.1.fget hj]
    rcases Nat.lt_trichotomy j x.at_ with h | h | h
    · have h0 := (hn j hj).2 (r1.fst x hx j h)
      rw [decide_eq_false (by omega : ¬ x.at_ + 1 ≤ j), h0]; simp
    · rw [decide_eq_false (by omega : ¬ x.at_ + 1 ≤ j), h]; simp
    · rw [decide_eq_true (by omega : x.at_ + 1 ≤ j), decide_eq_true (by omega : j ≠ x.at_), Bool.true_and, Bool.true_and]
      by_cases h0 : col ol.length x.e j = 0
      · rw [decide_eq_false (by simpa using (hn j hj).2 h0), decide_eq_false (by simpa using h0)]
      · rw [decide_eq_true (show ((rowL x.e).getD j default).n ≠ 0 from fun h1 => h0 ((hn j hj).1 h1)), decide_eq_true (show col ol.length x.e j ≠ 0 from h0)]
  unfold scnF fndF
  rw [hw.1.fl]
  have hc : ∀ (L : List Nat), (∀ j ∈ L, j < ol.length) → L.find? (fun j => decide (0 ≤ j) && (decide (j ≠ x.at_) && decide (((rowL x.e).getD j default).n ≠ 0))) = L.find? (fun i => decide (x.at_ + 1 ≤ i) && someF (x.e.fs.getD i default)) := by
    intro L
    induction L with
    | nil => intro _; rfl
    | cons y r ih =>
      intro h
      simp only [List.find?_cons]
      rw [key y (h y (by simp)), ih fun j hj => h j (by simp [hj])]
  exact hc _ fun j hj => List.mem_range.1 hj
end Go.Proofs.YtbkekdbabkncfaaGreat

namespace Go.Proofs.YtbkekdbabkncfaaGreat
open Go.RowKit Go.Maps Det

def RHidP (w : World) (l : List SubD) (q : List QueD) (id : Int) (e : Ending) (w' : World) : Prop := ∃ ol, Hid (SrtOf l ol) ∧ Below w.heap.size w w' ∧ ((hidR ol q id = none ∧ e = .returned (.tuple #[.slice none 0 0, .int .i64 6])) ∨
  ∃ x A' c', hidR ol q id = some x ∧ e = .returned (.tuple #[.slice A' (List.length x) c', .int .i64 0]) ∧ Hid (IntsAt w' w'.heap.size A' x))
/-- The first j negated. -/
def negV (M : List Int) (j : Nat) : List Int := (M.take j).map (fun x => -x) ++ M.drop j
theorem negV_len (M : List Int) {j : Nat} (hj : j ≤ M.length) : (negV M j).length = M.length := by simp [negV]; omega
theorem negV_set {M : List Int} {j : Nat} (hj : j < M.length) : (negV M j).set j (-M[j]) = negV M (j + 1) := by
  unfold negV
  rw [List.drop_eq_getElem_cons hj, List.set_append_right _ _ (by simp; omega), List.length_map, List.length_take, Nat.min_eq_left (Nat.le_of_lt hj), Nat.sub_self, List.set_cons_zero, List.take_succ_eq_append_getElem hj, List.map_append, List.append_assoc]
  rfl
theorem negV_get {M : List Int} {j : Nat} (hj : j < M.length) : (negV M j)[j]'(by rw [negV_len _ (by omega)]; exact hj) = M[j] := by
  unfold negV
  rw [List.getElem_append_right (by simp; omega)]
  simp [Nat.min_eq_left (Nat.le_of_lt hj)]
theorem negV_all (M : List Int) : negV M M.length = M.map (fun x => -x) := by simp [negV]
theorem int_put {B g c i : Nat} {w : World} {l : List Int} (h : w.ownsRow B 3 1 (.slice (some ⟨g, 0, none⟩) l.length c) l.length (l.flatMap intC)) (hi : i < l.length) (y : Int) :
    (w.setCell ⟨g, i, none⟩ (.int .i64 y)).ownsRow B 3 1 (.slice (some ⟨g, 0, none⟩) l.length c) l.length ((l.set i y).flatMap intC) := by
  have h1 := (h.stored i (.int .i64 y)).1
  have e : (l.flatMap intC).set i (.int .i64 y) = (l.set i y).flatMap intC := by
    have := flat_set intC_len l i hi y 0 (.int .i64 y) (by decide) rfl
    rw [Nat.mul_one, Nat.add_zero] at this
    exact this.symm
  rw [e] at h1
  exact h1
set_option maxRecDepth 100000 in
set_option maxHeartbeats 16000000 in
theorem refHide_ok (columns : Int) (l : List SubD) (A : Option Addr) (c : Nat) (q : List QueD) (Q : Option Addr) (qc : Nat) (id : Int) (w : World) (h : Rdy w columns l A q Q) (h10 : ∀ x ∈ q, x.v.wheres.length ≤ 10) :
    Calls Tryz.prog 30 #[.int .i64 columns, .slice A l.length c, .slice Q q.length qc, .int .i64 id] w (RHidP w l q id) := by
  obtain ⟨i4, hi4, fq0, fq1, fq2⟩ := info_parts frac10Info
  have HCk := Lib.hid (h.checked (c := c) (qc := qc) h10)
  have HOr := Lib.hid (fun w1 hb => h.ordered (c := c) w1 hb)
  have HRo := Lib.hid (fun (w2 : World) (hb : Below w.heap.size w w2) (A2 : Option Addr) (c2 : Nat) (ol : List SubD) hO => (h.order hb (A2 := A2) (ol := ol) hO).rows (c := c2) (qc := qc))
  have hl16 := h.l16
  have hq8 := h.q8
  have H8 := Lib.hid h.q8
  clear h h10
  go_enter Tryz.func30, Tryz.ntmps30
  go_upto_region 6 with (first
    | (go_at_call 49; (with_reducible refine (HCk.out).mono ?_); rintro e w1 ⟨rfl, h1⟩)
    | (go_at_call 50; (with_reducible refine (HOr.out _ h1).mono ?_); rintro e w2 ⟨A2, c2, ol, rfl, hO, h2⟩; have b2 := h1.trans (h2.mono h1.size); have hol : ol.length = l.length := hO.out.1.length_eq; have HSv := Lib.hid (HRo.out w2 b2 A2 c2 ol hO.out); rw [hol] at HSv)
    | (go_at_call 51; (with_reducible refine (HSv.out).mono ?_); rintro e w3 ⟨R, cR, Rs, rfl, hRo, hRv, h3⟩; have b3 := b2.trans (h3.mono b2.size)))
  have HS : Hid (SrtOf l ol) := Lib.hid ⟨hO.out.1, hO.out.2.1⟩
  have HOs := Lib.hid (hO.out.2.2.later h3)
  have HRv := Lib.hid hRv
  have HAf := Lib.hid (fun x (hx : x ∈ ledR ol q) => how_num H8.out hx)
  have HBd : Hid (∀ x ∈ ledR ol q, ∀ y ∈ rowL x.e, bdF y = true) := Lib.hid (fun x hx y hy => by
    obtain ⟨_, hok, hl8⟩ := led_ok ol q H8.out
    obtain ⟨E, hE, hB, hO⟩ := hok.whole hl8
    have hwf := hok.wf x hx
    have hao := col_over hwf.1 (hO x hx)
    have hya : FrcOk y ∧ Over (E : Rat) 40320 (val y) := by
      unfold rowL at hy
      rw [List.mem_append] at hy
      rcases hy with hy | hy
      · exact hao.1 y hy
      · exact hao.2 y hy
    have h2 := over_dvd hya.1 hya.2 hE
    have h3 := Nat.le_of_dvd (by omega) (Int.natAbs_dvd_natAbs.2 h2.1)
    have h4 := hya.1.1
    exact bdF_iff.2 (by omega))
  have hRl : Rs.length ≤ 8 := by
    have h5 := (led_ok ol q H8.out).2.2
    rw [← hRv, List.length_map] at h5
    exact h5
  have HAt := Lib.hid (at10_any ol A2 c2 id w3 HOs.out (by omega))
  rw [hol] at HAt
  have HB3 := Lib.hid b3
  have HLs := Lib.hid (fun (j : Int) (W' : World) (hb : Below w3.heap.size w3 W') => leads10_any Rs R cR j W' (hRo.out.later hb) (by omega))
  rw [hRv] at HLs
  -- what the row of a leader is like, in memory
  have HRow : Hid (∀ k, (hk : k < (ledR ol q).length) → ∃ z : RowD, z.v = (ledR ol q)[k] ∧ (rowL z.v.e).length = l.length + q.length ∧ ∀ W', Below w3.heap.size w3 W' → ∃ b off, R = some ⟨b, off, none⟩ ∧ W'.cell? ⟨b, off + k * 2, none⟩ = some (.int .i64 z.v.at_) ∧ W'.cell? ⟨b, off + k * 2 + 1, none⟩ = some (.slice z.A (l.length + q.length) z.c) ∧ FrcAt W' W'.heap.size z.A (rowL z.v.e)) := Lib.hid (fun k hk => by
    have hkR : k < Rs.length := by rw [← HRv.out] at hk; simpa using hk
    have hkv : Rs[k].v = (ledR ol q)[k] := by simp only [← HRv.out, List.getElem_map]
    have hnm := HAf.out _ (List.getElem_mem hk)
    rw [← hkv] at hnm
    have hrl : (rowL Rs[k].v.e).length = l.length + q.length := by unfold rowL; rw [List.length_append, hnm.2.1, hnm.2.2, hol]
    refine ⟨Rs[k], hkv, hrl, fun W' hb => ?_⟩
    obtain ⟨b, off, h1, _, h2, h3⟩ := row_at (hRo.out.later hb) hkR
    rw [hrl] at h3
    exact ⟨b, off, h1, h2, h3, (hRo.out.later hb).each _ (List.getElem_mem hkR)⟩)
  have HlR : Hid (Rs.length = (ledR ol q).length) := Lib.hid (by rw [← hRv, List.length_map])
  clear HSv hRv HCk HOr HRo h1 h2 h3 b2 hO b3
  cases hfi : fndI (idsR ol) id with
  | none =>
    rw [hfi] at HAt
    have hat : atI none = -1 := rfl
    rw [hat] at HAt
    have HN : Hid (hidR ol q id = none) := Lib.hid (by unfold hidR; rw [hfi]; rfl)
    clear hfi
    go_wp2_with (go_at_call 54; (with_reducible refine (HAt.out).mono ?_); rintro e w4 ⟨rfl, h4⟩; have b4 := HB3.out.trans (h4.mono HB3.out.size))
    refine bodyPost_ret (v := .tuple #[.slice none 0 0, .int .i64 6]) ?hres rfl ?hpost
    case hres => simp [results, Tryz.results30, go_sem]
    case hpost => exact ⟨ol, HS, b4, .inl ⟨HN.out, rfl⟩⟩
  | some a =>
    rw [hfi] at HAt
    have hat : atI (some a) = (a : Int) := rfl
    rw [hat] at HAt
    have hal : a < ol.length := by have := fndI_lt hfi; unfold idsR at this; simpa using this
    have HLd := Lib.hid (HLs.out (a : Int))
    rw [fndZ_nat] at HLd
    have hhr : hidR ol q id = (hidF (ledR ol q) a).map fun k => hidV (moreL (ledR ol q) ol.length k) a := by unfold hidR; rw [hfi]; rfl
    have ha0 : ¬ (a : Int) < 0 := by omega
    cases hf : fndL (ledR ol q) a with
    | none =>
      rw [hf] at HLd
      have hat2 : atI none = -1 := rfl
      rw [hat2] at HLd
      have hhf : hidF (ledR ol q) a = some a := by unfold hidF; rw [hf]
      rw [hhf] at hhr
      have HN := Lib.hid hhr
      have HHf := Lib.hid hhf
      clear hfi hf hhr hhf
      go_upto_region 20 with (first
        | (go_at_call 54; (with_reducible refine (HAt.out).mono ?_); rintro e w4 ⟨rfl, h4⟩)
        | (go_at_call 52; (with_reducible refine (HLd.out _ h4).mono ?_); rintro e w5 ⟨rfl, h5⟩; have b35 := h4.trans (h5.mono h4.size)))
      have B39 := Lib.hid b35
      generalize hw9 : w5 = w9 at *
      clear hw9
      obtain ⟨hfl, hfree⟩ := hid_free H8.out hal HHf.out
      have hnum := hide_num H8.out (by omega) hal HHf.out
      have HFree := Lib.hid hfree
      have hml : (moreL (ledR ol q) ol.length a).length = l.length := by rw [mor_length]; exact hol
      have HMa : Hid (∀ j, (hj : j < l.length) → (hx : j < (moreL (ledR ol q) ol.length a).length) → (moreL (ledR ol q) ol.length a)[j] = chgF (ledR ol q) a j) := Lib.hid (fun j hj hx => mor_at H8.out hfree hx)
      generalize hmo : moreL (ledR ol q) ol.length a = mo at *
      have HMo := Lib.hid hmo
      have HNum := Lib.hid hnum.1
      have HMb := Lib.hid hnum.2.1
      have HVl := Lib.hid hnum.2.2
      have hown0 : Hid (w9.ownsRow w9.heap.size 101 2 (.slice none 0 0) 0 ((mo.take 0).flatMap frcC)) := Lib.hid (World.ownsRow_nil _ _ _ _)
      clear hmo hnum hfree
      go_wp2_with fail
      go_loopw [16, 17] (fun oo jj wr => ∃ (j : Nat) (A3 : Option Addr) (c3 : Nat), j ≤ l.length ∧ oo = .slice A3 j c3 ∧ jj = .int .i64 j ∧ Hid (wr.ownsRow w9.heap.size 101 2 (.slice A3 j c3) j ((mo.take j).flatMap frcC) ∧ Below w9.heap.size w9 wr)) (fun _ jj _ => l.length - (vInt jj).toNat)
      case atStart => exact ⟨0, none, 0, Nat.zero_le _, rfl, rfl, Lib.hid ⟨hown0.out, Below.refl _ _⟩⟩
      case round =>
        clear hown0
        obtain ⟨j, A3, c3, hj, rfl, rfl, hR⟩ := hrel
        obtain ⟨ho, hB⟩ := hR.out
        clear hR
        have bw3 := B39.out.trans (hB.mono B39.out.size)
        have hbs := hB.size
        by_cases hlt : j < l.length
        · have hjl : (j : Int) < (l.length : Int) := by omega
          have HLj := Lib.hid (HLs.out (j : Int) wr bw3)
          rw [fndZ_nat] at HLj
          have hmj := HMa.out j hlt (by omega)
          have htk : (mo.take (j + 1)).flatMap frcC = (mo.take j).flatMap frcC ++ frcC (mo[j]'(by omega)) := by rw [List.take_succ_eq_append_getElem (by omega), List.flatMap_append]; simp
          rw [hmj] at htk
          have HO := Lib.hid ho
          have HB := Lib.hid hB
          by_cases hjf : j = a
          · have hch : chgF (ledR ol q) a j = ⟨1, 1⟩ := by unfold chgF; rw [if_pos hjf]
            rw [hch] at htk
            have HT := Lib.hid htk
            have hb1 : ((j : Int) == (a : Int)) = true := by rw [hjf]; simp
            generalize atI (fndL (ledR ol q) j) = kk at *
            clear htk hmj hch hjf ho hB
            go_wp2_with (first
              | (go_at_call 52; (with_reducible refine (HLj.out).mono ?_); rintro e w6 ⟨rfl, h6⟩; have b6 := HB.out.trans (h6.mono HB.out.size); have b6s := b6.size; have HO6 := Lib.hid ((own_below HO.out h6).alloc (.cells #[.int .i64 1, .int .i64 1] 101)); have HNw := Lib.hid (frc_new w6 1 1 101))
              | (at_builtin; refine wpList_append_own_at _ rfl _ _ 96 rfl w9.heap.size 101 i4 _ 2 16 Tryz.underlying96 hi4 fq0 fq1 fq2 rfl (by decide) _ _ _ rfl HO6.out ⟨w6.heap.size, 0, none⟩ 1 1 (frcC ⟨1, 1⟩) rfl rfl HNw.out (frcC_one _) (by unfold maxLen; omega) (by omega) (by simp; omega) ?_; intro v' w7 hown7 hg7 _ hat7; obtain ⟨A4, c4, rfl⟩ := own_slice hown7; have b7 := (b6.alloc b6.size (.cells #[.int .i64 1, .int .i64 1] 101)).grown hg7 (by simp; omega) (fun k e => (HO6.out.lt k e).1); have HO7 := Lib.hid hown7))
            go_roundw
            case rel => exact ⟨j + 1, A4, c4, by omega, rfl, by go_num, Lib.hid ⟨by rw [HT.out]; exact HO7.out, b7⟩⟩
            case measure => simp [vInt]; omega
          · have hb1 : ((j : Int) == (a : Int)) = false := by rw [beq_eq_false_iff_ne]; omega
            cases hfj : fndL (ledR ol q) j with
            | none =>
              rw [hfj] at HLj
              have hat9 : atI none = -1 := rfl
              rw [hat9] at HLj
              have hch : chgF (ledR ol q) a j = ⟨0, 1⟩ := by unfold chgF; rw [if_neg hjf, hfj]
              rw [hch] at htk
              have HT := Lib.hid htk
              clear htk hmj hch hjf ho hB hfj
              go_wp2_with (first
                | (go_at_call 52; (with_reducible refine (HLj.out).mono ?_); rintro e w6 ⟨rfl, h6⟩; have b6 := HB.out.trans (h6.mono HB.out.size); have b6s := b6.size; have HO6 := Lib.hid ((own_below HO.out h6).alloc (.cells #[.int .i64 0, .int .i64 1] 101)); have HNw := Lib.hid (frc_new w6 0 1 101))
                | (at_builtin; refine wpList_append_own_at _ rfl _ _ 96 rfl w9.heap.size 101 i4 _ 2 16 Tryz.underlying96 hi4 fq0 fq1 fq2 rfl (by decide) _ _ _ rfl HO6.out ⟨w6.heap.size, 0, none⟩ 1 1 (frcC ⟨0, 1⟩) rfl rfl HNw.out (frcC_one _) (by unfold maxLen; omega) (by omega) (by simp; omega) ?_; intro v' w7 hown7 hg7 _ hat7; obtain ⟨A4, c4, rfl⟩ := own_slice hown7; have b7 := (b6.alloc b6.size (.cells #[.int .i64 0, .int .i64 1] 101)).grown hg7 (by simp; omega) (fun k e => (HO6.out.lt k e).1); have HO7 := Lib.hid hown7))
              go_roundw
              case rel => exact ⟨j + 1, A4, c4, by omega, rfl, by go_num, Lib.hid ⟨by rw [HT.out]; exact HO7.out, b7⟩⟩
              case measure => simp [vInt]; omega
            | some i =>
              rw [hfj] at HLj
              have hat9 : atI (some i) = (i : Int) := rfl
              rw [hat9] at HLj
              obtain ⟨hil, _⟩ := fndL_at hfj
              obtain ⟨y, hyv, hyl, hym⟩ := HRow.out i hil
              have hfb : a < (rowL y.v.e).length := by omega
              have hyb := HBd.out _ (List.getElem_mem hil)
              have hyf := (HAf.out _ (List.getElem_mem hil)).2.2
              have hch : chgF (ledR ol q) a j = subF ⟨0, 1⟩ ((rowL y.v.e)[a]'hfb) := by
                unfold chgF
                rw [if_neg hjf, hfj]
                simp only [getD_lt _ _ hil]
                rw [← hyv] at hyf ⊢
                congr 1
                rw [getD_lt _ _ (by rw [hyf]; exact hfl)]
                simp only [rowL]
                rw [List.getElem_append_left (by rw [hyf]; exact hfl)]
              rw [hch] at htk
              rw [← hyv] at hyb
              have HMn := Lib.hid (minus10_any ⟨0, 1⟩ ((rowL y.v.e)[a]'hfb) (by decide) (hyb _ (List.getElem_mem hfb)))
              have HY : Hid (∀ W', Below w3.heap.size w3 W' → ∃ b off, R = some ⟨b, off, none⟩ ∧ W'.cell? ⟨b, off + i * 2 + 1, none⟩ = some (.slice y.A (l.length + q.length) y.c) ∧ ∃ b2 o2, y.A = some ⟨b2, o2, none⟩ ∧ W'.cell? ⟨b2, o2 + a * 2, none⟩ = some (.int .i64 ((rowL y.v.e)[a]'hfb).n) ∧ W'.cell? ⟨b2, o2 + a * 2 + 1, none⟩ = some (.int .i64 ((rowL y.v.e)[a]'hfb).d)) := Lib.hid (fun W' hb => by
                obtain ⟨b, off, h1, h2, h3, h4⟩ := hym W' hb
                obtain ⟨b2, o2, h5, _, h6, h7⟩ := frc_at h4 (k := a) (by omega)
                exact ⟨b, off, h1, h3, b2, o2, h5, h6, h7⟩)
              have hiI : (i : Int) < (Rs.length : Int) := by have := HlR.out; omega
              clear hmj hch hjf ho hB hfj hyb hyf hym hyv
              generalize (rowL y.v.e)[a]'hfb = fx at *
              have HT := Lib.hid htk
              clear htk
              generalize subF ⟨0, 1⟩ fx = ry at *
              obtain ⟨rn, rd⟩ := ry
              dsimp only at *
              have hi0 : ¬ (i : Int) < 0 := by omega
              have hfI : (a : Int) < ((l.length + q.length : Nat) : Int) := by omega
              have hfN : ¬ (a : Int) < 0 := by omega
              go_wp2_with (first
                | (go_at_call 52; (with_reducible refine (HLj.out).mono ?_); rintro e w5' ⟨rfl, h5'⟩; obtain ⟨bR, oR, hRA, r1, bY, oY, hYA, x0, x1⟩ := HY.out w5' (bw3.trans (h5'.mono bw3.size)); rw [hYA] at r1; subst hRA)
                | (go_at_call 56; (with_reducible refine (HMn.out _).mono ?_); rintro e w6 ⟨rfl, h6'⟩; have h6 := h5'.trans (h6'.mono h5'.size); have b6 := HB.out.trans (h6.mono HB.out.size); have b6s := b6.size; have HO6 := Lib.hid ((own_below HO.out h6).alloc (.cells #[.int .i64 rn, .int .i64 rd] 101)); have HNw := Lib.hid (frc_new w6 rn rd 101))
                | (at_builtin; refine wpList_append_own_at _ rfl _ _ 96 rfl w9.heap.size 101 i4 _ 2 16 Tryz.underlying96 hi4 fq0 fq1 fq2 rfl (by decide) _ _ _ rfl HO6.out ⟨w6.heap.size, 0, none⟩ 1 1 (frcC ⟨rn, rd⟩) rfl rfl HNw.out (frcC_one _) (by unfold maxLen; omega) (by omega) (by simp; omega) ?_; intro v' w7 hown7 hg7 _ hat7; obtain ⟨A4, c4, rfl⟩ := own_slice hown7; have b7 := (b6.alloc b6.size (.cells #[.int .i64 rn, .int .i64 rd] 101)).grown hg7 (by simp; omega) (fun k e => (HO6.out.lt k e).1); have HO7 := Lib.hid hown7))
              go_roundw
              case rel => exact ⟨j + 1, A4, c4, by omega, rfl, by go_num, Lib.hid ⟨by rw [HT.out]; exact HO7.out, b7⟩⟩
              case measure => simp [vInt]; omega
        · have hjl : ¬ (j : Int) < (l.length : Int) := by omega
          obtain rfl : j = l.length := by omega
          rw [List.take_of_length_le (by omega)] at ho
          have HNu := Lib.hid (numbers10_any mo A3 c3 wr (Flat.of_own (c := c3) frcC_len (by decide) (by rw [hml]; exact ho)) HNum.out)
          rw [hml] at HNu
          have b39 := bw3
          clear ho hB bw3
          go_upto_region 31 with (go_at_call 55; (with_reducible refine (HNu.out).mono ?_); rintro e wn ⟨An, cn, rfl, hon, hn9⟩)
          have hMl : (mltL (clrL 1 mo) mo).length = l.length := by rw [mlt_len]; exact hml
          have HX : Hid (∃ x, hidR ol q id = some x ∧ x = if (mltL (clrL 1 mo) mo).getD a 0 < 0 then (mltL (clrL 1 mo) mo).map (fun x => -x) else mltL (clrL 1 mo) mo) := Lib.hid ⟨_, by rw [HN.out, Option.map_some, HMo.out], HVl.out⟩
          have bN := HB3.out.trans ((b39.trans (hn9.mono b39.size)).mono HB3.out.size)
          generalize mltL (clrL 1 mo) mo = M at *
          have hog := hon.out
          have hlp : 0 < l.length := by omega
          obtain ⟨gM, cap, hv, hgM, hgMl⟩ := hog.form hlp
          simp only [Value.slice.injEq, true_and] at hv
          obtain ⟨rfl, rfl⟩ := hv
          have I9 : IntsAt wn wn.heap.size (some ⟨gM, 0, none⟩) M := Flat.of_own (c := cn) intC_len (by decide) (by rw [hMl]; exact hog)
          obtain ⟨bM, oM, hMA, hbM, cM⟩ := ints_at I9 (k := a) (by omega)
          obtain ⟨rfl, rfl⟩ : gM = bM ∧ 0 = oM := by simpa using hMA
          rw [Nat.zero_add] at cM
          have hwg : w.heap.size ≤ gM := by have h1 := hgM; have h2 := b39.size; have h3 := HB3.out.size; omega
          have hgd := getD_lt M 0 (by omega : a < M.length)
          have hxv := HX.out
          rw [hgd] at hxv
          have haI : (a : Int) < (l.length : Int) := by omega
          have hMb := HMb.out
          by_cases hneg : M[a]'(by omega) < 0
          · rw [if_pos hneg] at hxv
            have HXv := Lib.hid hxv
            have HOg : Hid (wn.ownsRow wr.heap.size 3 1 (.slice (some ⟨gM, 0, none⟩) (negV M 0).length cn) (negV M 0).length ((negV M 0).flatMap intC)) := Lib.hid (by rw [negV_len _ (Nat.zero_le _), hMl]; simpa [negV] using hog)
            have HMl := Lib.hid hMl
            have HMB := Lib.hid hMb
            clear hxv hog I9 hMA hgd hon HNu HX hMb
            generalize M[a]'(by omega) = ma at *
            go_wp2_with fail
            clear cM
            go_loopw [20] (fun jj wq => ∃ (j : Nat), j ≤ l.length ∧ jj = .int .i64 j ∧ Hid (wq.ownsRow wr.heap.size 3 1 (.slice (some ⟨gM, 0, none⟩) (negV M j).length cn) (negV M j).length ((negV M j).flatMap intC) ∧ Below w.heap.size w wq)) (fun jj _ => l.length - (vInt jj).toNat)
            case atStart => exact ⟨0, Nat.zero_le _, rfl, Lib.hid ⟨HOg.out, bN⟩⟩
            case round =>
              clear HOg
              obtain ⟨j, hj, rfl, hR⟩ := hrel
              obtain ⟨ho, hB⟩ := hR.out
              clear hR
              by_cases hlt : j < l.length
              · have hjl : (j : Int) < (l.length : Int) := by omega
                have hjM : j < M.length := by rw [HMl.out]; exact hlt
                have hjn : j < (negV M j).length := by rw [negV_len _ (by omega)]; exact hjM
                have I8 : IntsAt wr wr.heap.size (some ⟨gM, 0, none⟩) (negV M j) := Flat.of_own (c := cn) intC_len (by decide) ho
                obtain ⟨b1, o1, hA1, hb1, c1⟩ := ints_at I8 (k := j) hjn
                obtain ⟨rfl, rfl⟩ : gM = b1 ∧ 0 = o1 := by simpa using hA1
                rw [Nat.zero_add, negV_get hjM] at c1
                have hxb := HMB.out _ (List.getElem_mem hjM)
                have hput := int_put ho hjn (-(M[j]'hjM))
                rw [negV_set hjM] at hput
                have hlen : (negV M j).length = (negV M (j + 1)).length := by rw [negV_len _ (by omega), negV_len _ (by omega)]
                rw [hlen] at hput
                have hfz : ∀ k, wr.frozen? ⟨gM, k, none⟩ = false := fun k => ho.frozenAt k
                generalize M[j]'hjM = x at *
                have hwn : IntKind.i64.wrap (-x) = -x := IntWalk.i64_in _ (by omega)
                have HP := Lib.hid hput
                have HB2 := Lib.hid (hB.setCell (p := ⟨gM, j, none⟩) hwg (.int .i64 (-x)))
                clear hput hlen I8 hA1 ho hB
                go_wp2_with fail
                go_roundw
                case rel => exact ⟨j + 1, by omega, by go_num, Lib.hid ⟨HP.out, HB2.out⟩⟩
                case measure => simp [vInt]; omega
              · have hjl : ¬ (j : Int) < (l.length : Int) := by omega
                obtain rfl : j = l.length := by omega
                rw [show l.length = M.length from HMl.out.symm, negV_all, List.length_map, HMl.out] at ho
                obtain ⟨x, hx1, hx2⟩ := HXv.out
                have HX1 := Lib.hid (hx1.trans (congrArg some hx2))
                have HI9 : Hid (IntsAt wr wr.heap.size (some ⟨gM, 0, none⟩) (M.map fun x => -x)) := Lib.hid (Flat.of_own (c := cn) intC_len (by decide) (by rw [List.length_map, HMl.out]; exact ho))
                clear ho hx1 hx2
                go_wp2_with fail
                refine bodyPost_ret (v := .tuple #[.slice (some ⟨gM, 0, none⟩) l.length cn, .int .i64 0]) ?hres rfl ?hpost
                case hres => simp [results, Tryz.results30, go_sem]
                case hpost => exact ⟨ol, HS, hB, .inr ⟨M.map (fun x => -x), some ⟨gM, 0, none⟩, cn, HX1.out, by rw [List.length_map, HMl.out], HI9⟩⟩
          · rw [if_neg hneg] at hxv
            obtain ⟨x, hx1, hx2⟩ := hxv
            have HX1 := Lib.hid (hx1.trans (congrArg some hx2))
            have HI9 := Lib.hid I9
            have HMl := Lib.hid hMl
            clear hx1 hx2 hog I9 hMA hgd hon HNu HX hMb
            generalize M[a]'(by omega) = ma at *
            go_wp2_with fail
            refine bodyPost_ret (v := .tuple #[.slice (some ⟨gM, 0, none⟩) l.length cn, .int .i64 0]) ?hres rfl ?hpost
            case hres => simp [results, Tryz.results30, go_sem]
            case hpost => exact ⟨ol, HS, bN, .inr ⟨M, some ⟨gM, 0, none⟩, cn, HX1.out, by rw [HMl.out], HI9⟩⟩
    | some k =>
      rw [hf] at HLd
      have hat2 : atI (some k) = (k : Int) := rfl
      rw [hat2] at HLd
      obtain ⟨hkl, hka⟩ := fndL_at hf
      have hsc := scn_hid H8.out (List.getElem_mem hkl)
      have hhf : hidF (ledR ol q) a = fndF (ledR ol q)[k].e.fs ((ledR ol q)[k].at_ + 1) := by
        unfold hidF
        rw [hf]
        simp only [getD_lt _ _ hkl]
      rw [← hsc, hka] at hhf
      obtain ⟨z, hzv, hzl, hzm⟩ := HRow.out k hkl
      rw [← hzv] at hhf
      have hkI : (k : Int) < (Rs.length : Int) := by have := HlR.out; omega
      have hk0 : ¬ (k : Int) < 0 := by omega
      have hk1 : (0 : Int) ≤ (k : Int) := by omega
      have HZm := Lib.hid hzm
      have HHf := Lib.hid hhf
      have HHr := Lib.hid hhr
      clear hfi hf hhr hhf hzm hzv hkl hka hsc
      obtain ⟨z8, z9, rfl, _⟩ := HZm.out w3 (Below.refl _ _)
      go_upto_region 13 with (first
        | (go_at_call 54; (with_reducible refine (HAt.out).mono ?_); rintro e w4 ⟨rfl, h4⟩)
        | (go_at_call 52; (with_reducible refine (HLd.out _ h4).mono ?_); rintro e w5 ⟨rfl, h5⟩; have b35 := h4.trans (h5.mono h4.size)))
      have HB35 := Lib.hid b35
      clear h4 h5 b35
      have hsE : Hid (atI (scnF (rowL z.v.e) a ol.length ol.length) = -1) := Lib.hid (by rw [scn_end]; rfl)
      go_wp2_with fail
      go_loopw [13, 15] (fun ff jj wr => ∃ (i : Nat), i ≤ l.length ∧ ff = .int .i64 (atI (scnF (rowL z.v.e) a ol.length i)) ∧ jj = .int .i64 ((i : Int) - 1) ∧ Hid (Below w5.heap.size w5 wr)) (fun _ jj _ => (vInt jj + 1).toNat)
      case atStart => exact ⟨l.length, Nat.le_refl _, by rw [← hol, hsE.out], by first | rfl | go_num, Lib.hid (Below.refl _ _)⟩
      case round =>
        clear hsE
        obtain ⟨i, hi, rfl, rfl, hR⟩ := hrel
        have hB := hR.out
        clear hR
        have bw3 := HB35.out.trans (hB.mono HB35.out.size)
        by_cases hi0 : i = 0
        · subst hi0
          have hmi : ((0 : Nat) : Int) - 1 = -1 := by omega
          rw [hmi]
          cases hf : scnF (rowL z.v.e) a ol.length 0 with
          | none =>
            have hat3 : atI none = -1 := rfl
            rw [hat3]
            have HN : Hid (hidR ol q id = none) := Lib.hid (by rw [HHr.out, HHf.out, hf]; rfl)
            have b9 := HB3.out.trans (bw3.mono HB3.out.size)
            clear hf
            go_wp2_with fail
            refine bodyPost_ret (v := .tuple #[.slice none 0 0, .int .i64 6]) ?hres rfl ?hpost
            case hres => simp [results, Tryz.results30, go_sem]
            case hpost => exact ⟨ol, HS, b9, .inl ⟨HN.out, rfl⟩⟩
          | some f =>
            have hat3 : atI (some f) = (f : Int) := rfl
            rw [hat3]
            have hhf : hidF (ledR ol q) a = some f := by rw [HHf.out, hf]
            have hhr := HHr.out
            rw [hhf] at hhr
            have HN := Lib.hid hhr
            have HHf2 := Lib.hid hhf
            have b35 := bw3
            have hf0 : ¬ (f : Int) < 0 := by omega
            clear hf hhr hhf bw3
            go_upto_region 20 with fail
            have B39 := Lib.hid b35
            generalize hw9 : wr = w9 at *
            clear hw9
            obtain ⟨hfl, hfree⟩ := hid_free H8.out hal HHf2.out
            have hnum := hide_num H8.out (by omega) hal HHf2.out
            have HFree := Lib.hid hfree
            have hml : (moreL (ledR ol q) ol.length f).length = l.length := by rw [mor_length]; exact hol
            have HMa : Hid (∀ j, (hj : j < l.length) → (hx : j < (moreL (ledR ol q) ol.length f).length) → (moreL (ledR ol q) ol.length f)[j] = chgF (ledR ol q) f j) := Lib.hid (fun j hj hx => mor_at H8.out hfree hx)
            generalize hmo : moreL (ledR ol q) ol.length f = mo at *
            have HMo := Lib.hid hmo
            have HNum := Lib.hid hnum.1
            have HMb := Lib.hid hnum.2.1
            have HVl := Lib.hid hnum.2.2
            have hown0 : Hid (w9.ownsRow w9.heap.size 101 2 (.slice none 0 0) 0 ((mo.take 0).flatMap frcC)) := Lib.hid (World.ownsRow_nil _ _ _ _)
            clear hmo hnum hfree
            go_wp2_with fail
            go_loopw [16, 17] (fun oo jj wr => ∃ (j : Nat) (A3 : Option Addr) (c3 : Nat), j ≤ l.length ∧ oo = .slice A3 j c3 ∧ jj = .int .i64 j ∧ Hid (wr.ownsRow w9.heap.size 101 2 (.slice A3 j c3) j ((mo.take j).flatMap frcC) ∧ Below w9.heap.size w9 wr)) (fun _ jj _ => l.length - (vInt jj).toNat)
            case atStart => exact ⟨0, none, 0, Nat.zero_le _, rfl, rfl, Lib.hid ⟨hown0.out, Below.refl _ _⟩⟩
            case round =>
              clear hown0
              obtain ⟨j, A3, c3, hj, rfl, rfl, hR⟩ := hrel
              obtain ⟨ho, hB⟩ := hR.out
              clear hR
              have bw3 := B39.out.trans (hB.mono B39.out.size)
              have hbs := hB.size
              by_cases hlt : j < l.length
              · have hjl : (j : Int) < (l.length : Int) := by omega
                have HLj := Lib.hid (HLs.out (j : Int) wr bw3)
                rw [fndZ_nat] at HLj
                have hmj := HMa.out j hlt (by omega)
                have htk : (mo.take (j + 1)).flatMap frcC = (mo.take j).flatMap frcC ++ frcC (mo[j]'(by omega)) := by rw [List.take_succ_eq_append_getElem (by omega), List.flatMap_append]; simp
                rw [hmj] at htk
                have HO := Lib.hid ho
                have HB := Lib.hid hB
                by_cases hjf : j = f
                · have hch : chgF (ledR ol q) f j = ⟨1, 1⟩ := by unfold chgF; rw [if_pos hjf]
                  rw [hch] at htk
                  have HT := Lib.hid htk
                  have hb1 : ((j : Int) == (f : Int)) = true := by rw [hjf]; simp
                  generalize atI (fndL (ledR ol q) j) = kk at *
                  clear htk hmj hch hjf ho hB
                  go_wp2_with (first
                    | (go_at_call 52; (with_reducible refine (HLj.out).mono ?_); rintro e w6 ⟨rfl, h6⟩; have b6 := HB.out.trans (h6.mono HB.out.size); have b6s := b6.size; have HO6 := Lib.hid ((own_below HO.out h6).alloc (.cells #[.int .i64 1, .int .i64 1] 101)); have HNw := Lib.hid (frc_new w6 1 1 101))
                    | (at_builtin; refine wpList_append_own_at _ rfl _ _ 96 rfl w9.heap.size 101 i4 _ 2 16 Tryz.underlying96 hi4 fq0 fq1 fq2 rfl (by decide) _ _ _ rfl HO6.out ⟨w6.heap.size, 0, none⟩ 1 1 (frcC ⟨1, 1⟩) rfl rfl HNw.out (frcC_one _) (by unfold maxLen; omega) (by omega) (by simp; omega) ?_; intro v' w7 hown7 hg7 _ hat7; obtain ⟨A4, c4, rfl⟩ := own_slice hown7; have b7 := (b6.alloc b6.size (.cells #[.int .i64 1, .int .i64 1] 101)).grown hg7 (by simp; omega) (fun k e => (HO6.out.lt k e).1); have HO7 := Lib.hid hown7))
                  go_roundw
                  case rel => exact ⟨j + 1, A4, c4, by omega, rfl, by go_num, Lib.hid ⟨by rw [HT.out]; exact HO7.out, b7⟩⟩
                  case measure => simp [vInt]; omega
                · have hb1 : ((j : Int) == (f : Int)) = false := by rw [beq_eq_false_iff_ne]; omega
                  cases hfj : fndL (ledR ol q) j with
                  | none =>
                    rw [hfj] at HLj
                    have hat9 : atI none = -1 := rfl
                    rw [hat9] at HLj
                    have hch : chgF (ledR ol q) f j = ⟨0, 1⟩ := by unfold chgF; rw [if_neg hjf, hfj]
                    rw [hch] at htk
                    have HT := Lib.hid htk
                    clear htk hmj hch hjf ho hB hfj
                    go_wp2_with (first
                      | (go_at_call 52; (with_reducible refine (HLj.out).mono ?_); rintro e w6 ⟨rfl, h6⟩; have b6 := HB.out.trans (h6.mono HB.out.size); have b6s := b6.size; have HO6 := Lib.hid ((own_below HO.out h6).alloc (.cells #[.int .i64 0, .int .i64 1] 101)); have HNw := Lib.hid (frc_new w6 0 1 101))
                      | (at_builtin; refine wpList_append_own_at _ rfl _ _ 96 rfl w9.heap.size 101 i4 _ 2 16 Tryz.underlying96 hi4 fq0 fq1 fq2 rfl (by decide) _ _ _ rfl HO6.out ⟨w6.heap.size, 0, none⟩ 1 1 (frcC ⟨0, 1⟩) rfl rfl HNw.out (frcC_one _) (by unfold maxLen; omega) (by omega) (by simp; omega) ?_; intro v' w7 hown7 hg7 _ hat7; obtain ⟨A4, c4, rfl⟩ := own_slice hown7; have b7 := (b6.alloc b6.size (.cells #[.int .i64 0, .int .i64 1] 101)).grown hg7 (by simp; omega) (fun k e => (HO6.out.lt k e).1); have HO7 := Lib.hid hown7))
                    go_roundw
                    case rel => exact ⟨j + 1, A4, c4, by omega, rfl, by go_num, Lib.hid ⟨by rw [HT.out]; exact HO7.out, b7⟩⟩
                    case measure => simp [vInt]; omega
                  | some i =>
                    rw [hfj] at HLj
                    have hat9 : atI (some i) = (i : Int) := rfl
                    rw [hat9] at HLj
                    obtain ⟨hil, _⟩ := fndL_at hfj
                    obtain ⟨y, hyv, hyl, hym⟩ := HRow.out i hil
                    have hfb : f < (rowL y.v.e).length := by omega
                    have hyb := HBd.out _ (List.getElem_mem hil)
                    have hyf := (HAf.out _ (List.getElem_mem hil)).2.2
                    have hch : chgF (ledR ol q) f j = subF ⟨0, 1⟩ ((rowL y.v.e)[f]'hfb) := by
                      unfold chgF
                      rw [if_neg hjf, hfj]
                      simp only [getD_lt _ _ hil]
                      rw [← hyv] at hyf ⊢
                      congr 1
                      rw [getD_lt _ _ (by rw [hyf]; exact hfl)]
                      simp only [rowL]
                      rw [List.getElem_append_left (by rw [hyf]; exact hfl)]
                    rw [hch] at htk
                    rw [← hyv] at hyb
                    have HMn := Lib.hid (minus10_any ⟨0, 1⟩ ((rowL y.v.e)[f]'hfb) (by decide) (hyb _ (List.getElem_mem hfb)))
                    have HY : Hid (∀ W', Below w3.heap.size w3 W' → ∃ b off, (some ⟨z8, z9, none⟩ : Option Addr) = some ⟨b, off, none⟩ ∧ W'.cell? ⟨b, off + i * 2 + 1, none⟩ = some (.slice y.A (l.length + q.length) y.c) ∧ ∃ b2 o2, y.A = some ⟨b2, o2, none⟩ ∧ W'.cell? ⟨b2, o2 + f * 2, none⟩ = some (.int .i64 ((rowL y.v.e)[f]'hfb).n) ∧ W'.cell? ⟨b2, o2 + f * 2 + 1, none⟩ = some (.int .i64 ((rowL y.v.e)[f]'hfb).d)) := Lib.hid (fun W' hb => by
                      obtain ⟨b, off, h1, h2, h3, h4⟩ := hym W' hb
                      obtain ⟨b2, o2, h5, _, h6, h7⟩ := frc_at h4 (k := f) (by omega)
                      exact ⟨b, off, h1, h3, b2, o2, h5, h6, h7⟩)
                    have hiI : (i : Int) < (Rs.length : Int) := by have := HlR.out; omega
                    clear hmj hch hjf ho hB hfj hyb hyf hym hyv
                    generalize (rowL y.v.e)[f]'hfb = fx at *
                    have HT := Lib.hid htk
                    clear htk
                    generalize subF ⟨0, 1⟩ fx = ry at *
                    obtain ⟨rn, rd⟩ := ry
                    dsimp only at *
                    have hi0 : ¬ (i : Int) < 0 := by omega
                    have hfI : (f : Int) < ((l.length + q.length : Nat) : Int) := by omega
                    have hfN : ¬ (f : Int) < 0 := by omega
                    go_wp2_with (first
                      | (go_at_call 52; (with_reducible refine (HLj.out).mono ?_); rintro e w5' ⟨rfl, h5'⟩; obtain ⟨bR, oR, hRA, r1, bY, oY, hYA, x0, x1⟩ := HY.out w5' (bw3.trans (h5'.mono bw3.size)); rw [hYA] at r1; obtain ⟨rfl, rfl⟩ : z8 = bR ∧ z9 = oR := by simpa using hRA)
                      | (go_at_call 56; (with_reducible refine (HMn.out _).mono ?_); rintro e w6 ⟨rfl, h6'⟩; have h6 := h5'.trans (h6'.mono h5'.size); have b6 := HB.out.trans (h6.mono HB.out.size); have b6s := b6.size; have HO6 := Lib.hid ((own_below HO.out h6).alloc (.cells #[.int .i64 rn, .int .i64 rd] 101)); have HNw := Lib.hid (frc_new w6 rn rd 101))
                      | (at_builtin; refine wpList_append_own_at _ rfl _ _ 96 rfl w9.heap.size 101 i4 _ 2 16 Tryz.underlying96 hi4 fq0 fq1 fq2 rfl (by decide) _ _ _ rfl HO6.out ⟨w6.heap.size, 0, none⟩ 1 1 (frcC ⟨rn, rd⟩) rfl rfl HNw.out (frcC_one _) (by unfold maxLen; omega) (by omega) (by simp; omega) ?_; intro v' w7 hown7 hg7 _ hat7; obtain ⟨A4, c4, rfl⟩ := own_slice hown7; have b7 := (b6.alloc b6.size (.cells #[.int .i64 rn, .int .i64 rd] 101)).grown hg7 (by simp; omega) (fun k e => (HO6.out.lt k e).1); have HO7 := Lib.hid hown7))
                    go_roundw
                    case rel => exact ⟨j + 1, A4, c4, by omega, rfl, by go_num, Lib.hid ⟨by rw [HT.out]; exact HO7.out, b7⟩⟩
                    case measure => simp [vInt]; omega
              · have hjl : ¬ (j : Int) < (l.length : Int) := by omega
                obtain rfl : j = l.length := by omega
                rw [List.take_of_length_le (by omega)] at ho
                have HNu := Lib.hid (numbers10_any mo A3 c3 wr (Flat.of_own (c := c3) frcC_len (by decide) (by rw [hml]; exact ho)) HNum.out)
                rw [hml] at HNu
                have b39 := bw3
                clear ho hB bw3
                go_upto_region 31 with (go_at_call 55; (with_reducible refine (HNu.out).mono ?_); rintro e wn ⟨An, cn, rfl, hon, hn9⟩)
                have hMl : (mltL (clrL 1 mo) mo).length = l.length := by rw [mlt_len]; exact hml
                have HX : Hid (∃ x, hidR ol q id = some x ∧ x = if (mltL (clrL 1 mo) mo).getD a 0 < 0 then (mltL (clrL 1 mo) mo).map (fun x => -x) else mltL (clrL 1 mo) mo) := Lib.hid ⟨_, by rw [HN.out, Option.map_some, HMo.out], HVl.out⟩
                have bN := HB3.out.trans ((b39.trans (hn9.mono b39.size)).mono HB3.out.size)
                generalize mltL (clrL 1 mo) mo = M at *
                have hog := hon.out
                have hlp : 0 < l.length := by omega
                obtain ⟨gM, cap, hv, hgM, hgMl⟩ := hog.form hlp
                simp only [Value.slice.injEq, true_and] at hv
                obtain ⟨rfl, rfl⟩ := hv
                have I9 : IntsAt wn wn.heap.size (some ⟨gM, 0, none⟩) M := Flat.of_own (c := cn) intC_len (by decide) (by rw [hMl]; exact hog)
                obtain ⟨bM, oM, hMA, hbM, cM⟩ := ints_at I9 (k := a) (by omega)
                obtain ⟨rfl, rfl⟩ : gM = bM ∧ 0 = oM := by simpa using hMA
                rw [Nat.zero_add] at cM
                have hwg : w.heap.size ≤ gM := by have h1 := hgM; have h2 := b39.size; have h3 := HB3.out.size; omega
                have hgd := getD_lt M 0 (by omega : a < M.length)
                have hxv := HX.out
                rw [hgd] at hxv
                have haI : (a : Int) < (l.length : Int) := by omega
                have hMb := HMb.out
                by_cases hneg : M[a]'(by omega) < 0
                · rw [if_pos hneg] at hxv
                  have HXv := Lib.hid hxv
                  have HOg : Hid (wn.ownsRow wr.heap.size 3 1 (.slice (some ⟨gM, 0, none⟩) (negV M 0).length cn) (negV M 0).length ((negV M 0).flatMap intC)) := Lib.hid (by rw [negV_len _ (Nat.zero_le _), hMl]; simpa [negV] using hog)
                  have HMl := Lib.hid hMl
                  have HMB := Lib.hid hMb
                  clear hxv hog I9 hMA hgd hon HNu HX hMb
                  generalize M[a]'(by omega) = ma at *
                  go_wp2_with fail
                  clear cM
                  go_loopw [20] (fun jj wq => ∃ (j : Nat), j ≤ l.length ∧ jj = .int .i64 j ∧ Hid (wq.ownsRow wr.heap.size 3 1 (.slice (some ⟨gM, 0, none⟩) (negV M j).length cn) (negV M j).length ((negV M j).flatMap intC) ∧ Below w.heap.size w wq)) (fun jj _ => l.length - (vInt jj).toNat)
                  case atStart => exact ⟨0, Nat.zero_le _, rfl, Lib.hid ⟨HOg.out, bN⟩⟩
                  case round =>
                    clear HOg
                    obtain ⟨j, hj, rfl, hR⟩ := hrel
                    obtain ⟨ho, hB⟩ := hR.out
                    clear hR
                    by_cases hlt : j < l.length
                    · have hjl : (j : Int) < (l.length : Int) := by omega
                      have hjM : j < M.length := by rw [HMl.out]; exact hlt
                      have hjn : j < (negV M j).length := by rw [negV_len _ (by omega)]; exact hjM
                      have I8 : IntsAt wr wr.heap.size (some ⟨gM, 0, none⟩) (negV M j) := Flat.of_own (c := cn) intC_len (by decide) ho
                      obtain ⟨b1, o1, hA1, hb1, c1⟩ := ints_at I8 (k := j) hjn
                      obtain ⟨rfl, rfl⟩ : gM = b1 ∧ 0 = o1 := by simpa using hA1
                      rw [Nat.zero_add, negV_get hjM] at c1
                      have hxb := HMB.out _ (List.getElem_mem hjM)
                      have hput := int_put ho hjn (-(M[j]'hjM))
                      rw [negV_set hjM] at hput
                      have hlen : (negV M j).length = (negV M (j + 1)).length := by rw [negV_len _ (by omega), negV_len _ (by omega)]
                      rw [hlen] at hput
                      have hfz : ∀ k, wr.frozen? ⟨gM, k, none⟩ = false := fun k => ho.frozenAt k
                      generalize M[j]'hjM = x at *
                      have hwn : IntKind.i64.wrap (-x) = -x := IntWalk.i64_in _ (by omega)
                      have HP := Lib.hid hput
                      have HB2 := Lib.hid (hB.setCell (p := ⟨gM, j, none⟩) hwg (.int .i64 (-x)))
                      clear hput hlen I8 hA1 ho hB
                      go_wp2_with fail
                      go_roundw
                      case rel => exact ⟨j + 1, by omega, by go_num, Lib.hid ⟨HP.out, HB2.out⟩⟩
                      case measure => simp [vInt]; omega
                    · have hjl : ¬ (j : Int) < (l.length : Int) := by omega
                      obtain rfl : j = l.length := by omega
                      rw [show l.length = M.length from HMl.out.symm, negV_all, List.length_map, HMl.out] at ho
                      obtain ⟨x, hx1, hx2⟩ := HXv.out
                      have HX1 := Lib.hid (hx1.trans (congrArg some hx2))
                      have HI9 : Hid (IntsAt wr wr.heap.size (some ⟨gM, 0, none⟩) (M.map fun x => -x)) := Lib.hid (Flat.of_own (c := cn) intC_len (by decide) (by rw [List.length_map, HMl.out]; exact ho))
                      clear ho hx1 hx2
                      go_wp2_with fail
                      refine bodyPost_ret (v := .tuple #[.slice (some ⟨gM, 0, none⟩) l.length cn, .int .i64 0]) ?hres rfl ?hpost
                      case hres => simp [results, Tryz.results30, go_sem]
                      case hpost => exact ⟨ol, HS, hB, .inr ⟨M.map (fun x => -x), some ⟨gM, 0, none⟩, cn, HX1.out, by rw [List.length_map, HMl.out], HI9⟩⟩
                · rw [if_neg hneg] at hxv
                  obtain ⟨x, hx1, hx2⟩ := hxv
                  have HX1 := Lib.hid (hx1.trans (congrArg some hx2))
                  have HI9 := Lib.hid I9
                  have HMl := Lib.hid hMl
                  clear hx1 hx2 hog I9 hMA hgd hon HNu HX hMb
                  generalize M[a]'(by omega) = ma at *
                  go_wp2_with fail
                  refine bodyPost_ret (v := .tuple #[.slice (some ⟨gM, 0, none⟩) l.length cn, .int .i64 0]) ?hres rfl ?hpost
                  case hres => simp [results, Tryz.results30, go_sem]
                  case hpost => exact ⟨ol, HS, bN, .inr ⟨M, some ⟨gM, 0, none⟩, cn, HX1.out, by rw [HMl.out], HI9⟩⟩
        · obtain ⟨p, rfl⟩ : ∃ p, i = p + 1 := ⟨i - 1, by omega⟩
          have hmi : ((p + 1 : Nat) : Int) - 1 = (p : Int) := by omega
          rw [hmi]
          have hst := scn_step (cs := rowL z.v.e) (a := a) (show p < ol.length by omega)
          obtain ⟨bR, oR, hRA, r0, r1, hFr⟩ := HZm.out wr bw3
          obtain ⟨rfl, rfl⟩ : z8 = bR ∧ z9 = oR := by simpa using hRA
          obtain ⟨bA, oA, hAA, hbA, x0, x1⟩ := frc_at hFr (k := p) (by omega)
          rw [hAA] at r1
          rw [getD_lt _ _ (by omega)] at hst
          generalize (rowL z.v.e)[p]'(by omega) = fx at *
          have hpI : (p : Int) < ((l.length + q.length : Nat) : Int) := by omega
          have hp0 : ¬ (p : Int) < 0 := by omega
          have HB := Lib.hid hB
          clear hFr hRA hB bw3
          by_cases hpa : p = a
          · rw [if_neg (fun h => h.1 hpa)] at hst
            have HT := Lib.hid hst
            have hb1 : ((p : Int) != (a : Int)) = false := by rw [hpa]; simp
            clear hst hpa
            go_wp2_with fail
            go_roundw
            case rel => exact ⟨p, by omega, by rw [HT.out], by go_num, HB⟩
            case measure => first | (simp [vInt]; done) | (simp [vInt]; omega)
          · have hb1 : ((p : Int) != (a : Int)) = true := by
              have : ¬ (p : Int) = (a : Int) := by omega
              simpa using this
            by_cases hz : fx.n = 0
            · rw [if_neg (fun h => h.2 hz)] at hst
              have HT := Lib.hid hst
              have hb2 : (fx.n != 0) = false := by simpa using hz
              clear hst hpa hz
              go_wp2_with fail
              go_roundw
              case rel => exact ⟨p, by omega, by rw [HT.out], by go_num, HB⟩
              case measure => first | (simp [vInt]; done) | (simp [vInt]; omega)
            · rw [if_pos ⟨hpa, hz⟩] at hst
              have HT := Lib.hid hst
              have hb2 : (fx.n != 0) = true := by simpa using hz
              clear hst hpa hz
              go_wp2_with fail
              go_roundw
              case rel => exact ⟨p, by omega, by rw [HT.out]; rfl, by go_num, HB⟩
              case measure => first | (simp [vInt]; done) | (simp [vInt]; omega)
end Go.Proofs.YtbkekdbabkncfaaGreat

namespace Go.Proofs.YtbkekdbabkncfaaGreat
open Go.RowKit Go.Maps Det

set_option maxRecDepth 100000 in
set_option maxHeartbeats 4000000 in
theorem refHide_bad (columns : Int) (l : List SubD) (A : Option Addr) (c : Nat) (q : List QueD) (Q : Option Addr) (qc : Nat) (id : Int) (w : World) (E : Int) (hE : E = 100 ∨ E = 102) (HC : Calls Tryz.prog 49 #[.int .i64 columns, .slice A l.length c, .slice Q q.length qc] w fun e w' => e = .returned (.int .i64 E) ∧ Below w.heap.size w w') :
    Calls Tryz.prog 30 #[.int .i64 columns, .slice A l.length c, .slice Q q.length qc, .int .i64 id] w (DedO w [] E) := by
  rcases hE with rfl | rfl
  all_goals
    go_enter Tryz.func30, Tryz.ntmps30
    go_wp2_with (go_at_call 49; (with_reducible refine (HC).mono ?_); rintro e w1 ⟨rfl, h1⟩)
  · refine bodyPost_ret (v := .tuple #[.slice none 0 0, .int .i64 100]) ?hres rfl ?hpost
    case hres => simp [results, Tryz.results30, go_sem]
    case hpost => exact ⟨none, 0, rfl, Lib.hid (ints_none _ _), h1⟩
  · refine bodyPost_ret (v := .tuple #[.slice none 0 0, .int .i64 102]) ?hres rfl ?hpost
    case hres => simp [results, Tryz.results30, go_sem]
    case hpost => exact ⟨none, 0, rfl, Lib.hid (ints_none _ _), h1⟩
/-- What both answer. -/
theorem both_hide (columns : Int) (l : List SubD) (q : List QueD) (id : Int) : ∃ (D : List Int) (E : Int), D.length ≤ 1000 ∧
    (∀ w tl A c tq Q qc, Ask10 w tl A tq Q → tl.map SubD.v = l.map SubD.v → tq.map QueD.v = q.map QueD.v →
      Calls Tryz.prog 20 #[.int .i64 columns, .slice A (List.length tl) c, .slice Q (List.length tq) qc, .int .i64 id] w (DedO w D E) ∧
      Calls Tryz.prog 30 #[.int .i64 columns, .slice A (List.length tl) c, .slice Q (List.length tq) qc, .int .i64 id] w (DedO w D E)) := by
  cases ht : tabB columns (l.map SubD.v) with
  | false =>
    refine ⟨[], 100, by simp, fun w tl A c tq Q qc h hl hq => ?_⟩
    rw [← hl] at ht
    have HA : ∀ W, Below w.heap.size w W → Calls Tryz.prog 44 #[.int .i64 columns, .slice A tl.length c, .slice Q tq.length qc] W fun e w' => e = .returned (.tuple #[.agg #[.slice none 0 0, .map none, .slice none 0 0], .int .i64 100]) ∧ Below W.heap.size W w' := fun W hb => openAudit_bad1 columns tl A c tq Q qc W (h.later hb).sub (by have := h.ll; unfold maxLen; omega) (fun x hx => le10 (h.lv x hx)) ht
    have HC := checked10_any columns tl A c tq Q qc w h.sub h.ll h.que h.ql h.qv
    rw [ht, if_neg (by decide)] at HC
    exact ⟨(hide_bad columns tl A c tq Q qc id w 100 (.inl rfl) fun W hb => openAbout_bad columns tl A c tq Q qc id W 100 (.inl rfl) fun W2 hb2 => HA W2 (hb.trans (hb2.mono hb.size))).mono fun e w' ⟨h1, h2⟩ => ⟨none, 0, h1, Lib.hid (ints_none _ _), h2⟩, refHide_bad columns tl A c tq Q qc id w 100 (.inl rfl) HC⟩
  | true =>
    cases ha : avlB columns q with
    | false =>
      refine ⟨[], 102, by simp, fun w tl A c tq Q qc h hl hq => ?_⟩
      rw [← hl] at ht
      rw [← avl_congr hq] at ha
      have HA : ∀ W, Below w.heap.size w W → Calls Tryz.prog 44 #[.int .i64 columns, .slice A tl.length c, .slice Q tq.length qc] W fun e w' => e = .returned (.tuple #[.agg #[.slice none 0 0, .map none, .slice none 0 0], .int .i64 102]) ∧ Below W.heap.size W w' := fun W hb => openAudit_bad2 columns tl A c tq Q qc W (h.later hb).sub (fun x hx => le10 (h.lv x hx)) by_all ht (h.later hb).que (fun x hx => le10 (h.qv x hx)) (by have := h.ql; omega) ha
      have HC := checked10_any columns tl A c tq Q qc w h.sub h.ll h.que h.ql h.qv
      rw [ht, ha, if_pos rfl, if_neg (by decide)] at HC
      exact ⟨(hide_bad columns tl A c tq Q qc id w 102 (.inr rfl) fun W hb => openAbout_bad columns tl A c tq Q qc id W 102 (.inr rfl) fun W2 hb2 => HA W2 (hb.trans (hb2.mono hb.size))).mono fun e w' ⟨h1, h2⟩ => ⟨none, 0, h1, Lib.hid (ints_none _ _), h2⟩, refHide_bad columns tl A c tq Q qc id w 102 (.inr rfl) HC⟩
    | true =>
      obtain ⟨ol, ho⟩ := srt_some l
      have hn := tab_ids ht
      have key : ∀ tl tq ol', tl.map SubD.v = l.map SubD.v → tq.map QueD.v = q.map QueD.v → SrtOf tl ol' → hidR ol' tq id = hidR ol q id := fun tl tq ol' hl hq ho' => by
        have hv := srt_congr ho ho' hl hn
        obtain ⟨c1, c2⟩ := led_congr hv hq
        have hlen : ol'.length = ol.length := by simpa using congrArg List.length hv
        unfold hidR
        rw [c1, c2, hlen]
      cases hh : hidR ol q id with
      | none =>
        refine ⟨[], 6, by simp, fun w tl A c tq Q qc h hl hq => ?_⟩
        have hr := h.rdy (columns := columns) (by rw [hl]; exact ht) (by rw [avl_congr hq]; exact ha)
        refine ⟨(hr.hide (c := c) (sc := qc) id).mono ?_, (refHide_ok columns tl A c tq Q qc id w hr h.qv).mono ?_⟩
        · rintro e w' ⟨ol', ho', hb, ⟨_, rfl⟩ | ⟨x, A', c', h2, _⟩⟩
          · exact ⟨none, 0, rfl, Lib.hid (ints_none _ _), hb⟩
          · rw [key tl tq ol' hl hq ho'.out, hh] at h2; cases h2
        · rintro e w' ⟨ol', ho', hb, ⟨_, rfl⟩ | ⟨x, A', c', h2, _⟩⟩
          · exact ⟨none, 0, rfl, Lib.hid (ints_none _ _), hb⟩
          · rw [key tl tq ol' hl hq ho'.out, hh] at h2; cases h2
      | some z =>
        have hzl : z.length ≤ 1000 := by
          unfold hidR at hh
          rw [Option.bind_eq_some_iff] at hh
          obtain ⟨a, _, h2⟩ := hh
          rw [Option.map_eq_some_iff] at h2
          obtain ⟨k, _, rfl⟩ := h2
          have h3 : (hidV (moreL (ledR ol q) ol.length k) a).length = ol.length := by unfold hidV; rw [mlt_len, mor_length]
          have h4 := (ask_parts ht).2.1
          rw [List.length_map] at h4
          rw [h3, ho.1.length_eq]
          omega
        refine ⟨z, 0, hzl, fun w tl A c tq Q qc h hl hq => ?_⟩
        have hr := h.rdy (columns := columns) (by rw [hl]; exact ht) (by rw [avl_congr hq]; exact ha)
        refine ⟨(hr.hide (c := c) (sc := qc) id).mono ?_, (refHide_ok columns tl A c tq Q qc id w hr h.qv).mono ?_⟩
        · rintro e w' ⟨ol', ho', hb, ⟨h2, rfl⟩ | ⟨x, A', c', h2, rfl, hf⟩⟩
          · rw [key tl tq ol' hl hq ho'.out, hh] at h2; cases h2
          · rw [key tl tq ol' hl hq ho'.out, hh] at h2
            obtain rfl : z = x := by simpa using h2
            exact ⟨A', c', rfl, Lib.hid hf.flat, hb⟩
        · rintro e w' ⟨ol', ho', hb, ⟨h2, rfl⟩ | ⟨x, A', c', h2, rfl, hf⟩⟩
          · rw [key tl tq ol' hl hq ho'.out, hh] at h2; cases h2
          · rw [key tl tq ol' hl hq ho'.out, hh] at h2
            obtain rfl : z = x := by simpa using h2
            exact ⟨A', c', rfl, hf, hb⟩
set_option maxRecDepth 100000 in
set_option maxHeartbeats 16000000 in
theorem sumHides_any (columns : Int) (l : List SubD) (A : Option Addr) (c : Nat) (q : List QueD) (Q : Option Addr) (qc : Nat) (id : Int) (w : World) (h : SubsAt w w.heap.size A l) (hm : ∀ x ∈ l, x.v.vals.length ≤ maxLen) (hq : QuesAt w w.heap.size Q q) (hqw : ∀ x ∈ q, x.v.wheres.length ≤ maxLen) (_hid : -9223372036854775808 ≤ id ∧ id ≤ 9223372036854775807) :
    Calls Tryz.prog 5 #[.int .i64 columns, .slice A l.length c, .slice Q q.length qc, .int .i64 id] w fun e w' => e = .returned (.bool true) ∧ Below w.heap.size w w' := by
  have HG := Lib.hid (great10_any l A c q Q qc w h hq ⟨hm, hqw⟩)
  cases hg : grtB l q with
  | true =>
    rw [hg] at HG
    clear h hm hq hqw hg
    go_enter Tryz.func5, Tryz.ntmps5
    go_wp2_with (go_at_call 23; (with_reducible refine (HG.out).mono ?_); rintro e w1 ⟨rfl, h1⟩)
    go_ret
    exact ⟨rfl, h1⟩
  | false =>
    rw [hg] at HG
    obtain ⟨g1, g2, g3, g4⟩ := grt_parts hg
    have h0 : Ask10 w l A q Q := ⟨h, hq, g1, g2, fun x hx => by
      obtain ⟨i, hi, rfl⟩ := List.mem_iff_getElem.1 hx
      exact g3 i hi, fun x hx => by
      obtain ⟨i, hi, rfl⟩ := List.mem_iff_getElem.1 hx
      exact g4 i hi⟩
    have H0 := Lib.hid h0
    have HTs := Lib.hid (fun (W : World) (hb : Below w.heap.size w W) => twinS_any l A c W (h.later hb) (by omega) (fun x hx => by have := h0.lv x hx; omega))
    have HTq := Lib.hid (fun (W : World) (hb : Below w.heap.size w W) => twinQ_any q Q qc W (hq.later hb) (by omega) (fun x hx => by have := h0.qv x hx; omega))
    obtain ⟨D, E, hD, hall⟩ := both_hide columns l q id
    have HAll := Lib.hid hall
    have HR1 := Lib.hid (fun (W : World) (hb : Below w.heap.size w W) => hall W l A c q Q qc (h0.later hb) rfl rfl)
    clear h hm hq hqw hg g1 g2 g3 g4 h0 hall
    go_enter Tryz.func5, Tryz.ntmps5
    go_wp2_with (first
      | (go_at_call 23; (with_reducible refine (HG.out).mono ?_); rintro e w1 ⟨rfl, h1⟩)
      | (go_at_call 24; (with_reducible refine (HTs.out _ h1).mono ?_); rintro e w2 ⟨A1, c1, tl, rfl, t1, h2⟩; have b2 := h1.trans (h2.mono h1.size))
      | (go_at_call 25; (with_reducible refine (HTq.out _ b2).mono ?_); rintro e w3 ⟨B1, d1, tq, rfl, t2, h3⟩; have b3 := b2.trans (h3.mono b2.size); have htl : tl.length = l.length := (by have := congrArg List.length t1.out.1; simpa using this); have htq : tq.length = q.length := (by have := congrArg List.length t2.out.1; simpa using this); have HT : Hid (Ask10 w3 tl A1 tq B1) := Lib.hid ⟨t1.out.2.later h3, t2.out.2, by rw [htl]; exact H0.out.ll, by rw [htq]; exact H0.out.ql, fun x hx => (by
          have h9 := List.mem_map_of_mem (f := SubD.v) hx
          rw [t1.out.1] at h9
          obtain ⟨y, hy, he⟩ := List.mem_map.1 h9
          rw [← he]
          exact H0.out.lv y hy), fun x hx => (by
          have h9 := List.mem_map_of_mem (f := QueD.v) hx
          rw [t2.out.1] at h9
          obtain ⟨y, hy, he⟩ := List.mem_map.1 h9
          rw [← he]
          exact H0.out.qv y hy)⟩; have HP1 := Lib.hid (fun (W : World) (hb : Below w3.heap.size w3 W) => HAll.out W tl A1 c1 tq B1 d1 (HT.out.later hb) t1.out.1 t2.out.1); rw [htl, htq] at HP1)
      | (go_at_call 20; (with_reducible refine (HP1.out w3 (Below.refl _ _)).1.mono ?_); rintro e w4 ⟨A4, c4, rfl, i4, h4⟩; have b4 := b3.trans (h4.mono b3.size))
      | (go_at_call 30; (with_reducible refine (HR1.out w4 b4).2.mono ?_); rintro e w7 ⟨A5, c5, rfl, i5, h5⟩; have b7 := b4.trans (h5.mono b4.size); have k7 := h4.trans (h5.mono h4.size); have S1 := Lib.hid (sameInts_any D A4 A5 c4 c5 w7 (i4.out.later h5) i5.out hD); have S3 := Lib.hid (fun (W : World) (hb : Below w3.heap.size w3 W) (hw : Below w.heap.size w W) => sameTable_any tl l A1 A c1 c W (HT.out.later hb).sub (H0.out.later hw).sub t1.out.1 (by have := HT.out.ll; omega) (fun x hx => by have := HT.out.lv x hx; omega)); have S4 := Lib.hid (fun (W : World) (hb : Below w3.heap.size w3 W) (hw : Below w.heap.size w W) => sameQues_any tq q B1 Q d1 qc W (HT.out.later hb).que (H0.out.later hw).que t2.out.1 (by have := HT.out.ql; omega) (fun x hx => by have := HT.out.qv x hx; omega)); rw [htl] at S3; rw [htq] at S4)
      | (go_at_call 18; (with_reducible refine (S1.out).mono ?_); rintro e x1 ⟨rfl, f2⟩)
      | (go_at_call 28; (with_reducible refine (S3.out _ (k7.trans (f2.mono k7.size)) (b7.trans (f2.mono b7.size))).mono ?_); rintro e x3 ⟨rfl, f3'⟩; have f3 := f2.trans (f3'.mono f2.size))
      | (go_at_call 29; (with_reducible refine (S4.out _ (k7.trans (f3.mono k7.size)) (b7.trans (f3.mono b7.size))).mono ?_); rintro e x4 ⟨rfl, f4'⟩; have f4 := f3.trans (f4'.mono f3.size)))
    go_ret
    exact ⟨ret_bool (by simp), b7.trans (f4.mono b7.size)⟩
end Go.Proofs.YtbkekdbabkncfaaGreat

namespace Go.Proofs.YtbkekdbabkncfaaGreat
open Go.ChangeShapes Go.WideShapes Go.ChangeAt Go.RowKit Go.Deep Go.Maps

theorem Tryz.own : ownKnob Tryz.prog.godebug = none := by kernel_rfl
theorem Tryz.laidOut : laidOutB Tryz.prog = true := by kernel_rfl
set_option maxRecDepth 100000 in
theorem sumHides_lifted (os : Os) (started : os.Started) (H : Type) (enc : TypeId × Value → H) :
    ReturnsInHanded {} Tryz.checked os 5 .any (Rows.sumHidesSpec.pre6 enc Tryz.prog Tryz.f5 Rows.sumHidesRow.domain false) (Rows.sumHidesSpec.post enc Tryz.prog Tryz.f5 false true false false) := by
  refine returnsInHanded_of_change (C := Tryz.checked) Tryz.own started (by kernel_rfl) Tryz.func5
    (ChangeSpec.witness6 (enc := enc) (C := Tryz.checked) false ⟨#[], #[.int .i64 0, .slice none 0 0, .slice none 0 0, .int .i64 0], []⟩ 8 (by kernel_rfl) (by kernel_rfl) (by kernel_rfl) (by kernel_rfl)) ?_
  intro W base args ds gs before hval0 hW _ _
  have hval : ∀ (j : Nat) t v, Tryz.f5.params[j]? = some t → args[j]? = some v → Value.okWide Tryz.prog W .any base t v := hval0
  have hW' := hW
  obtain ⟨p, q, hA0, hV, rfl, _, _⟩ := hW
  have hA : DataW.TrodAll enc Tryz.prog W 0 (fun _ => true) true Tryz.f5.params.toList args.toList ds p := hA0
  rw [Tryz.params5] at hA hval
  obtain ⟨v0, v1, v2, v3, d0, d1, d2, d3, p0, p1, p2, p3, rfl, rfl, rfl, h0, h1, h2, h3⟩ := trodAll_four hA
  obtain ⟨rfl, rfl⟩ := trodVars_none hV
  have k0 := h0
  have k1 := h1
  have k2 := h2
  have k3 := h3
  obtain ⟨n0, rfl⟩ := okWide_int Tryz.underlying3 (hval 0 3 v0 rfl rfl)
  obtain ⟨a1, n1, m1, rfl⟩ := okWide_slice Tryz.underlying30 (hval 1 30 v1 rfl rfl)
  obtain ⟨a2, n2, m2, rfl⟩ := okWide_slice Tryz.underlying35 (hval 2 35 v2 rfl rfl)
  obtain ⟨n3, rfl⟩ := okWide_int Tryz.underlying3 (hval 3 3 v3 rfl rfl)
  obtain ⟨f1, hf1⟩ := h1
  obtain ⟨f2, hf2⟩ := h2
  obtain ⟨f3, hf3⟩ := h3
  obtain ⟨X1, xc1, x1, hs1, hx1, hb1, hl1⟩ := subs_of_trod (show DataW.trod enc Tryz.prog W 0 (fun _ => true) true f1 30 [.slice a1 n1 m1] = some (d1, p1) from hf1)
  obtain ⟨rfl, rfl, rfl⟩ : a1 = X1 ∧ n1 = x1.length ∧ m1 = xc1 := by simpa using hs1
  obtain ⟨X2, xc2, x2, hs2, hx2, hb2, hl2⟩ := ques_of_trod (show DataW.trod enc Tryz.prog W 0 (fun _ => true) true f2 35 [.slice a2 n2 m2] = some (d2, p2) from hf2)
  obtain ⟨rfl, rfl, rfl⟩ : a2 = X2 ∧ n2 = x2.length ∧ m2 = xc2 := by simpa using hs2
  obtain ⟨y3, e3, _, wf3⟩ := DataW.trod_int Tryz.underlying3 (show DataW.trod enc Tryz.prog W 0 (fun _ => true) true f3 3 [.int .i64 n3] = some (d3, p3) from hf3)
  simp only [List.cons.injEq, Value.int.injEq, true_and, and_true] at e3
  subst e3
  have hn3 : -9223372036854775808 ≤ n3 ∧ n3 ≤ 9223372036854775807 := by
    simp [Lit.wf] at wf3
    have e0 : IntKind.i64.min = -9223372036854775808 := by decide
    have e1 : IntKind.i64.max = 9223372036854775807 := by decide
    omega
  clear hA0 hval0 hf1 hf2 hf3
  simp only [List.append_nil] at hW'
  have hlt : ∀ y ∈ p0 ++ p1 ++ p2 ++ p3, y.block < W.heap.size := fun y hy => by simpa using hW'.lt y hy
  refine (sumHides_any n0 x1 a1 m1 x2 a2 m2 n3 W ⟨hx1, fun z hz => (hb1 z hz).1⟩ (fun z hz => (hb1 z hz).2) ⟨hx2, fun z hz => (hb2 z hz).1⟩ (fun z hz => (hb2 z hz).2) hn3).mono fun e W' ⟨he, hb⟩ => ?_
  subst he
  refine ⟨_, rfl, _, _, _, [], p0 ++ p1 ++ p2 ++ p3, [], hW', ?_, ?_, rfl, hb.frame _, fun h => by cases h⟩
  · exact trodAll_mk1 (shut_bool Tryz.underlying4 true)
  · have ht := trodAll_mk4 (Below.trod Tryz.laidOut (by kernel_rfl) (of_decide_eq_true (by kernel_rfl)) k0 hb fun y hy => hlt y (by simp [hy])) (Below.trod Tryz.laidOut (by kernel_rfl) (of_decide_eq_true (by kernel_rfl)) k1 hb fun y hy => hlt y (by simp [hy])) (Below.trod Tryz.laidOut (by kernel_rfl) (of_decide_eq_true (by kernel_rfl)) k2 hb fun y hy => hlt y (by simp [hy])) (Below.trod Tryz.laidOut (by kernel_rfl) (of_decide_eq_true (by kernel_rfl)) k3 hb fun y hy => hlt y (by simp [hy]))
    rw [← List.append_assoc, ← List.append_assoc] at ht
    exact ht

theorem sumHides_holds : Rows.SumHidesSaid :=
  OpenClaim.holds_of_wide 5 Tryz.f5 rfl rfl rfl rfl rfl rfl rfl ⟨rfl, rfl, rfl, rfl, rfl⟩ rfl rfl rfl rfl rfl (by kernel_rfl) Tryz.func5 (by kernel_rfl)
    (of_decide_eq_true (by kernel_rfl)) (by unfold Func.isWrapper; first | (rw [if_pos (by decide +kernel)]; kernel_rfl) | (rw [if_neg (by decide +kernel)]; exact ⟨rfl, rfl⟩))
    (fun os started H enc _ => sumHides_lifted os started H enc)

#print axioms sumHides_holds
end Go.Proofs.YtbkekdbabkncfaaGreat
