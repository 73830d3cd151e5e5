/- Deduced, How, Hide, at any table and any audit that are valid. -/
import Derived.Test.YtbkekdbabkncfaaGreatV2
import Derived.Test.YtbkekdbabkncfaaGreatVDH
import Derived.Test.YtbkekdbabkncfaaGreatUPrg11
import Derived.Test.YtbkekdbabkncfaaGreatUApp

namespace Go.Proofs.YtbkekdbabkncfaaGreat
open Go.RowKit Go.Maps

theorem led_ok (ol : List SubD) (qs : List QueD) (h : qs.length ≤ 8) : solB [] (eqnL ol qs.length 0 (qs.map QueD.v)) = true ∧ LOk ol.length qs.length (ledR ol qs) ∧ (ledR ol qs).length ≤ 8 := by
  obtain ⟨h1, h2⟩ := solve_any ol qs.length (qs.map QueD.v) 0 [] (LOk.nil _ _) (by simpa using h)
  refine ⟨h1, h2, ?_⟩
  have h3 := solL_len (eqnL ol qs.length 0 (qs.map QueD.v)) []
  have h4 := eqnL_len ol qs.length (qs.map QueD.v) 0
  unfold ledR
  simp only [List.length_map, List.length_nil] at h3 h4
  omega
section
variable {columns : Int} {l : List SubD} {A : Option Addr} {c : Nat} {qs : List QueD} {S : Option Addr} {sc : Nat} {w : World}
/-- A table and an audit that are valid, in memory. -/
structure Rdy (w : World) (columns : Int) (l : List SubD) (A : Option Addr) (qs : List QueD) (S : Option Addr) : Prop where
  sub : SubsAt w w.heap.size A l
  vals : ∀ x ∈ l, x.v.vals.length ≤ maxLen
  tab : tabB columns (l.map SubD.v) = true
  que : QuesAt w w.heap.size S qs
  whe : ∀ x ∈ qs, x.v.wheres.length ≤ maxLen
  avl : avlB columns qs = true
theorem Rdy.q8 (h : Rdy w columns l A qs S) : qs.length ≤ 8 := by
  have := h.avl
  unfold avlB at this
  rw [Bool.and_eq_true, decide_eq_true_eq] at this
  exact this.1
theorem Rdy.l16 (h : Rdy w columns l A qs S) : l.length ≤ 16 := by
  have := h.tab
  unfold tabB at this
  simp at this
  omega
theorem Rdy.at_ (h : Rdy w columns l A qs S) (ol : List SubD) : ∀ x ∈ ledR ol qs, x.at_ < ol.length := fun x hx => ((led_ok ol qs h.q8).2.1.wf x hx).2
theorem Rdy.open_ (h : Rdy w columns l A qs S) (W : World) (hb : Below w.heap.size w W) : Calls Tryz.prog 44 #[.int .i64 columns, .slice A l.length c, .slice S qs.length sc] W (AudU W columns l qs) :=
  (callsIn_wide (n := 9)).1 (openAudit_good columns l A c qs S sc W (h.sub.later hb) h.vals by_all h.tab (h.que.later hb) h.whe h.avl fun ol _ _ => (led_ok ol qs h.q8).1)
theorem Rdy.about (h : Rdy w columns l A qs S) (id : Int) (W : World) (hb : Below w.heap.size w W) : Calls Tryz.prog 42 #[.int .i64 columns, .slice A l.length c, .slice S qs.length sc, .int .i64 id] W (AboU W l qs id) :=
  openAbout_ok columns l A c qs S sc id W fun W2 hb2 => h.open_ W2 (hb.trans (hb2.mono hb.size))
theorem Rdy.deduced (h : Rdy w columns l A qs S) : Calls Tryz.prog 19 #[.int .i64 columns, .slice A l.length c, .slice S qs.length sc] w (DedP w l qs) :=
  deduced_ok columns l A c qs S sc w h.q8 (fun ol _ => h.at_ ol) (fun W hb => h.open_ W hb)
theorem Rdy.how (h : Rdy w columns l A qs S) (id : Int) : Calls Tryz.prog 16 #[.int .i64 columns, .slice A l.length c, .slice S qs.length sc, .int .i64 id] w (HowP w l qs id) :=
  how_ok columns l A c qs S sc id w h.q8 (by have := h.l16; omega) (fun ol _ => ⟨h.at_ ol, fun a _ => how_bd (led_ok ol qs h.q8).2.1 (led_ok ol qs h.q8).2.2 a⟩) (fun W hb => h.about id W hb)
theorem Rdy.hide (h : Rdy w columns l A qs S) (id : Int) : Calls Tryz.prog 20 #[.int .i64 columns, .slice A l.length c, .slice S qs.length sc, .int .i64 id] w (HidP w l qs id) :=
  hide_ok columns l A c qs S sc id w h.q8 (by have := h.l16; omega) (fun ol ho => ⟨h.at_ ol, fun a ha => hide_bd (led_ok ol qs h.q8).2.1 (led_ok ol qs h.q8).2.2 (by have := fndI_lt ha; unfold idsR at this; simpa using this) (by rw [ho.1.length_eq]; exact h.l16)⟩) (fun W hb => h.about id W hb)
end
end Go.Proofs.YtbkekdbabkncfaaGreat

namespace Go.Proofs.YtbkekdbabkncfaaGreat
open Go.RowKit Go.Maps Det

/-- What is made of some rows. -/
inductive InS (S : Nat) (P : (Nat → Rat) → Prop) : (Nat → Rat) → Prop
  | zero (u : Nat → Rat) (h : ∀ c, c < S → u c = 0) : InS S P u
  | add (r u u' : Nat → Rat) (x : Rat) (hr : P r) (hu : InS S P u') (h : ∀ c, c < S → u c = u' c + x * r c) : InS S P u
theorem InS.mono {S : Nat} {P Q : (Nat → Rat) → Prop} (h : ∀ r, P r → Q r) {u : Nat → Rat} (hu : InS S P u) : InS S Q u := by
  induction hu with
  | zero u h0 => exact .zero u h0
  | add r u u' x hr _ h1 ih => exact .add r u u' x (h r hr) ih h1
def rowQ (ol : List SubD) (q : Que) (c : Nat) : Rat := val ((digL (bitsN (askL q ol)) ol.length).getD c default)
def RowOf (ol : List SubD) (qs : List Que) (r : Nat → Rat) : Prop := ∃ q ∈ qs, r = rowQ ol q
def unitR (a : Nat) : Nat → Rat := fun c => if c = a then 1 else 0
def rowsR (ol : List SubD) (qs : List Que) (i : Nat) : Nat → Rat := match qs[i]? with
  | some q => rowQ ol q
  | none => fun _ => 0
theorem ins_sum {S : Nat} {P : (Nat → Rat) → Prop} (x : Nat → Rat) (R : Nat → Nat → Rat) : ∀ m, (∀ i, i < m → P (R i)) → InS S P (fun c => sumR m fun i => x i * R i c)
  | 0, _ => .zero _ fun _ _ => rfl
  | m + 1, h => .add (R m) _ _ (x m) (h m (by omega)) (ins_sum x R m fun i hi => h i (by omega)) fun _ _ => rfl
theorem two_pow_bit (k i : Nat) : 2 ^ k / 2 ^ i % 2 = if i = k then 1 else 0 := by
  have h := Nat.testBit_two_pow (n := k) (m := i)
  rw [Nat.testBit_eq_decide_div_mod_eq] at h
  by_cases e : i = k
  · rw [if_pos e]
    rw [decide_eq_true (e.symm : k = i)] at h
    exact of_decide_eq_true h
  · rw [if_neg e]
    rw [decide_eq_false (fun e' => e e'.symm : ¬ k = i)] at h
    have := of_decide_eq_false h
    omega
theorem dig_val (b n i : Nat) (hi : i < n) : val ((digL b n).getD i default) = ((b / 2 ^ i % 2 : Nat) : Rat) := by
  have hl : i < (digL b n).length := by rw [dig_len]; exact hi
  have h1 : (digL b n)[i]'(by rw [dig_len]; exact hi) = intF ((b / 2 ^ i % 2 : Nat) : Int) := by
    unfold digL
    rw [List.getElem_map]
    simp only [List.getElem_range]
  rw [getD_lt _ _ hl, h1, (intF_ok _).2]
  rfl
theorem first_comb {ol : List SubD} {m k : Nat} {q : Que} {R : Nat → Nat → Rat} (hk : k < m) (hR : R k = rowQ ol q) : Comb ol.length m R ⟨digL (bitsN (askL q ol)) ol.length, digL (2 ^ k) m⟩ := fun c hc => by
  have e : ∀ i, i < m → col ol.length ⟨digL (bitsN (askL q ol)) ol.length, digL (2 ^ k) m⟩ (ol.length + i) = if i = k then 1 else 0 := fun i hi => by
    unfold col
    rw [if_neg (by omega), Nat.add_sub_cancel_left, dig_val _ _ _ hi, two_pow_bit]
    split <;> rfl
  rw [sumR_one hk (fun i hi hn => by rw [e i hi, if_neg hn, Rat.zero_mul]), e k hk, if_pos rfl, Rat.one_mul, hR]
  unfold col
  rw [if_pos hc]; rfl
theorem led_more {ol : List SubD} {m : Nat} {R : Nat → Nat → Rat} : ∀ (qs : List Que) (k : Nat) (ls : List Led) (rows : List (Nat → Rat)), LMore ol.length m R rows ls → (∀ i, (h : i < qs.length) → R (k + i) = rowQ ol qs[i]) → k + qs.length ≤ m → ls.length + qs.length ≤ 8 →
    ∃ rows', LMore ol.length m R rows' (solL ls (eqnL ol m k qs)) ∧ (∀ r ∈ rows, r ∈ rows') ∧ ∀ q ∈ qs, bitsN (askL q ol) ≠ 0 → ∃ r ∈ rows', ∀ c, c < ol.length → r c = rowQ ol q c
  | [], _, _, rows, h, _, _, _ => ⟨rows, h, fun _ h => h, fun _ h => by simp at h⟩
  | q :: qs, k, ls, rows, h, hR, hm, hl => by
    rw [List.length_cons] at hm hl
    have hR' : ∀ i, (h : i < qs.length) → R (k + 1 + i) = rowQ ol qs[i] := fun i hi => by
      have := hR (i + 1) (by simpa using hi)
      rw [Nat.add_assoc, Nat.add_comm 1 i, this]; rfl
    simp only [eqnL]
    split
    · rename_i he
      obtain ⟨rows', r1, r2, r3⟩ := led_more qs (k + 1) ls rows h hR' (by omega) (by omega)
      refine ⟨rows', r1, r2, fun q' hq' hb => ?_⟩
      rcases List.mem_cons.1 hq' with rfl | hq'
      · exact absurd he hb
      · exact r3 q' hq' hb
    · rename_i hne
      obtain ⟨x1, x2⟩ := eqn_ok (bitsN (askL q ol)) (2 ^ k) ol.length m
      have x3 : empE ⟨digL (bitsN (askL q ol)) ol.length, digL (2 ^ k) m⟩ = false := by
        have := eqn_some (askL q ol) (2 ^ k) m hne
        rwa [askL_len] at this
      have hk : k < m := by omega
      have x4 := first_comb (ol := ol) (m := m) (q := q) (R := R) hk (hR 0 (by simp))
      have hs := more_ok h (by omega) x1 x2 x3 x4
      have hlen := solS_le ls ⟨digL (bitsN (askL q ol)) ol.length, digL (2 ^ k) m⟩
      obtain ⟨rows', r1, r2, r3⟩ := led_more qs (k + 1) _ _ hs hR' (by omega) (by omega)
      simp only [solL]
      refine ⟨rows', r1, fun r hr => r2 r (by simp [hr]), fun q' hq' hb => ?_⟩
      rcases List.mem_cons.1 hq' with rfl | hq'
      · refine ⟨col ol.length ⟨digL (bitsN (askL q' ol)) ol.length, digL (2 ^ k) m⟩, r2 _ (by simp), fun c hc => ?_⟩
        unfold col
        rw [if_pos hc]; rfl
      · exact r3 q' hq' hb
theorem row_zero {ol : List SubD} {q : Que} (h : bitsN (askL q ol) = 0) {c : Nat} (hc : c < ol.length) : rowQ ol q c = 0 := by
  unfold rowQ
  rw [h, dig_val _ _ _ hc, Nat.zero_div]
  rfl
/-- All that an audit's leads are. -/
theorem led_all (ol : List SubD) (qs : List QueD) (h8 : qs.length ≤ 8) : ∃ rows, LMore ol.length qs.length (rowsR ol (qs.map QueD.v)) rows (ledR ol qs) ∧ ∀ q ∈ qs.map QueD.v, ∀ c, c < ol.length → rowQ ol q c = sumR (ledR ol qs).length fun j => rowQ ol q (Pf (ledR ol qs) j) * Lf ol.length (ledR ol qs) j c := by
  obtain ⟨rows, r1, _, r3⟩ := led_more (ol := ol) (m := qs.length) (R := rowsR ol (qs.map QueD.v)) (qs.map QueD.v) 0 [] [] (LMore.nil _ _ _) (fun i hi => by
    rw [Nat.zero_add]
    unfold rowsR
    rw [List.getElem?_eq_getElem hi]) (by simp) (by simpa using h8)
  change LMore _ _ _ _ (ledR ol qs) at r1
  refine ⟨rows, r1, fun q hq c hc => ?_⟩
  have hp : ∀ j, j < (ledR ol qs).length → Pf (ledR ol qs) j < ol.length := fun j hj => by
    unfold Pf; rw [getD_lt _ _ hj]; exact (r1.ok.wf _ (List.getElem_mem hj)).2
  by_cases hb : bitsN (askL q ol) = 0
  · rw [row_zero hb hc, sumR_zero (fun j hj => by rw [row_zero hb (hp j hj), Rat.zero_mul])]
  · obtain ⟨r, hr, e⟩ := r3 q hq hb
    rw [← e c hc, r1.span r hr c hc]
    exact sumR_congr fun j hj => by rw [e _ (hp j hj)]
theorem frees {S m : Nat} {l : Led} (h : EqOk S m l.e) : freeB l = false ↔ ∀ c, l.at_ < c → c < S → col S l.e c = 0 := by
  unfold freeB
  constructor
  · intro hf c h1 h2
    cases he : fndF l.e.fs (l.at_ + 1) with
    | some _ => rw [he] at hf; simp at hf
    | none =>
      unfold fndF at he
      rw [List.find?_eq_none] at he
      have h3 := he c (by rw [List.mem_range, h.fl]; exact h2)
      rw [someF_ok (getD_ok h.fo c), h.fget h2, decide_eq_true (by omega : l.at_ + 1 ≤ c)] at h3
      simpa using h3
  · intro hc
    rw [fnd_none (fun j hj hk => by
      have h2 : j < S := by rw [← h.fl]; exact hj
      have h3 := hc j (by omega) h2
      rw [← h.fget h2, getD_lt _ _ hj] at h3
      rw [someF_ok (h.fo _ (List.getElem_mem hj)), h3]
      simp)]
    rfl
theorem led_unit {ol : List SubD} {qs : List QueD} (h8 : qs.length ≤ 8) {l : Led} (hl : l ∈ ledR ol qs) (hf : freeB l = false) : InS ol.length (RowOf ol (qs.map QueD.v)) (unitR l.at_) := by
  obtain ⟨rows, r1, _⟩ := led_all ol qs h8
  have hw := r1.ok.wf l hl
  have hz := (frees hw.1).1 hf
  obtain ⟨e, hi⟩ := r1.ok.inv
  obtain ⟨j, hj, hjl⟩ := List.mem_iff_getElem.1 hl
  have hu := hi.unit j hj j hj
  rw [if_pos rfl] at hu
  unfold Lf Pf at hu
  rw [getD_lt _ _ hj, hjl] at hu
  have hs := ins_sum (S := ol.length) (P := RowOf ol (qs.map QueD.v)) (fun i => col ol.length l.e (ol.length + i)) (rowsR ol (qs.map QueD.v)) qs.length (fun i hi => by
    have hi' : i < (qs.map QueD.v).length := by simpa using hi
    refine ⟨(qs.map QueD.v)[i], List.getElem_mem hi', ?_⟩
    unfold rowsR
    rw [List.getElem?_eq_getElem hi'])
  -- the same numbers
  have hc : ∀ c, c < ol.length → unitR l.at_ c = sumR qs.length fun i => col ol.length l.e (ol.length + i) * rowsR ol (qs.map QueD.v) i c := fun c hc => by
    rw [← r1.comb l hl c hc]
    unfold unitR
    rcases Nat.lt_trichotomy c l.at_ with h | h | h
    · rw [if_neg (by omega), r1.fst l hl c h]
    · rw [if_pos h, h, hu]
    · rw [if_neg (by omega), hz c h hc]
  cases hs with
  | zero _ h0 => exact .zero _ fun c hcS => by rw [hc c hcS]; exact h0 c hcS
  | add r _ u' x hr hu' h1 => exact .add r _ u' x hr hu' fun c hcS => by rw [hc c hcS]; exact h1 c hcS
theorem unit_led {ol : List SubD} {qs : List QueD} (h8 : qs.length ≤ 8) {a : Nat} (ha : a < ol.length) (h : InS ol.length (RowOf ol (qs.map QueD.v)) (unitR a)) : ∃ l ∈ ledR ol qs, l.at_ = a ∧ freeB l = false := by
  obtain ⟨rows, r1, r2⟩ := led_all ol qs h8
  obtain ⟨e, hi⟩ := r1.ok.inv
  have hp : ∀ j, j < (ledR ol qs).length → Pf (ledR ol qs) j < ol.length := fun j hj => by
    unfold Pf; rw [getD_lt _ _ hj]; exact (r1.ok.wf _ (List.getElem_mem hj)).2
  have hall : ∀ u, InS ol.length (RowOf ol (qs.map QueD.v)) u → ∀ c, c < ol.length → u c = sumR (ledR ol qs).length fun j => u (Pf (ledR ol qs) j) * Lf ol.length (ledR ol qs) j c := fun u hu => by
    induction hu with
    | zero u h0 => exact fun c hc => by rw [h0 c hc, sumR_zero (fun j hj => by rw [h0 _ (hp j hj), Rat.zero_mul])]
    | add r u u' x hr _ h1 ih =>
      intro c hc
      obtain ⟨q, hq, rfl⟩ := hr
      have e1 : (sumR (ledR ol qs).length fun j => u (Pf (ledR ol qs) j) * Lf ol.length (ledR ol qs) j c) = sumR (ledR ol qs).length fun j => 1 * (u' (Pf (ledR ol qs) j) * Lf ol.length (ledR ol qs) j c) + x * (rowQ ol q (Pf (ledR ol qs) j) * Lf ol.length (ledR ol qs) j c) := sumR_congr fun j hj => by
        rw [h1 _ (hp j hj)]; grind
      rw [e1, sumR_lin, ← ih c hc, ← r2 q hq c hc, h1 c hc]; grind
  have hua := hall _ h
  by_cases hx : ∃ j, j < (ledR ol qs).length ∧ Pf (ledR ol qs) j = a
  · obtain ⟨j, hj, hja⟩ := hx
    have hP : ∀ k, k < (ledR ol qs).length → k ≠ j → unitR a (Pf (ledR ol qs) k) = 0 := fun k hk hkj => by
      unfold unitR
      rw [if_neg]
      intro he
      have h1 := hi.unit j hj k hk
      have h2 := hi.unit j hj j hj
      rw [if_neg (fun e' => hkj e'.symm), he] at h1
      rw [if_pos rfl, hja] at h2
      rw [h1] at h2
      exact absurd h2 (by decide)
    have hL : ∀ c, c < ol.length → Lf ol.length (ledR ol qs) j c = unitR a c := fun c hc => by
      rw [hua c hc, sumR_one hj (fun k hk hkj => by rw [hP k hk hkj, Rat.zero_mul])]
      unfold unitR
      rw [hja, if_pos rfl, Rat.one_mul]
    have hm : (ledR ol qs)[j] ∈ ledR ol qs := List.getElem_mem hj
    have hja' : (ledR ol qs)[j].at_ = a := by
      unfold Pf at hja
      rwa [getD_lt _ _ hj] at hja
    refine ⟨_, hm, hja', (frees (r1.ok.wf _ hm).1).2 fun c h1 h2 => ?_⟩
    have h3 := hL c h2
    unfold Lf at h3
    rw [getD_lt _ _ hj] at h3
    rw [h3]
    unfold unitR
    rw [if_neg (by omega)]
  · have h1 := hua a ha
    rw [sumR_zero (fun j hj => by
      have : unitR a (Pf (ledR ol qs) j) = 0 := by unfold unitR; rw [if_neg (fun e' => hx ⟨j, hj, e'⟩)]
      rw [this, Rat.zero_mul])] at h1
    unfold unitR at h1
    rw [if_pos rfl] at h1
    exact absurd h1 (by decide)
theorem led_distinct {ol : List SubD} {qs : List QueD} (h8 : qs.length ≤ 8) : (ledR ol qs).Pairwise (fun x y => x.at_ ≠ y.at_) := by
  obtain ⟨e, hi⟩ := (led_ok ol qs h8).2.1.inv
  rw [List.pairwise_iff_getElem]
  intro i j hi' hj' hij he
  have h1 := hi.unit i hi' j hj'
  have h2 := hi.unit i hi' i hi'
  unfold Lf Pf at h1 h2
  simp only [getD_lt (ledR ol qs) _ hi', getD_lt (ledR ol qs) _ hj'] at h1 h2
  rw [if_neg (by omega), ← he] at h1
  rw [if_pos trivial, h1] at h2
  exact absurd h2 (by decide)
end Go.Proofs.YtbkekdbabkncfaaGreat

namespace Go.Proofs.YtbkekdbabkncfaaGreat
open Go.RowKit Go.Maps Det

theorem srt_perm (l : List Int) : (srtI l).Perm l := List.mergeSort_perm l _
theorem srt_le (l : List Int) : (srtI l).Pairwise (fun x y => x ≤ y) := by
  have h := List.pairwise_mergeSort (le := fun x y : Int => decide (x ≤ y)) (fun a b c h1 h2 => by simp at *; omega) (fun a b => by simp; omega) l
  exact h.imp fun h => of_decide_eq_true h
theorem ded_iff {ol : List SubD} {qs : List QueD} (h8 : qs.length ≤ 8) {id : Int} : id ∈ dedR ol qs ↔ ∃ a, a < ol.length ∧ (idsR ol).getD a 0 = id ∧ InS ol.length (RowOf ol (qs.map QueD.v)) (unitR a) := by
  unfold dedR
  rw [(srt_perm _).mem_iff]
  unfold dedL
  rw [List.mem_map]
  constructor
  · rintro ⟨l, hl, rfl⟩
    rw [List.mem_filter] at hl
    have hf : freeB l = false := by simpa using hl.2
    exact ⟨l.at_, ((led_ok ol qs h8).2.1.wf l hl.1).2, rfl, led_unit h8 hl.1 hf⟩
  · rintro ⟨a, ha, rfl, hu⟩
    obtain ⟨l, hl, rfl, hf⟩ := unit_led h8 ha hu
    exact ⟨l, List.mem_filter.2 ⟨hl, by simp [hf]⟩, rfl⟩
theorem ded_lt {ol : List SubD} {qs : List QueD} (h8 : qs.length ≤ 8) (hn : (ol.map fun x => x.v.id).Nodup) : (dedR ol qs).Pairwise (fun x y => x < y) := by
  have h1 : (dedL (idsR ol) (ledR ol qs)).Nodup := by
    unfold dedL
    rw [List.nodup_iff_pairwise_ne, List.pairwise_map]
    refine List.Pairwise.imp_of_mem ?_ ((led_distinct h8).filter _)
    intro x y hx hy hne he
    have hx2 := ((led_ok ol qs h8).2.1.wf x (List.mem_filter.1 hx).1).2
    have hy2 := ((led_ok ol qs h8).2.1.wf y (List.mem_filter.1 hy).1).2
    have hl : (idsR ol).length = ol.length := by unfold idsR; simp
    rw [getD_lt _ _ (by omega), getD_lt _ _ (by omega)] at he
    exact hne ((List.getElem_inj hn).1 he)
  have h2 : (dedR ol qs).Nodup := (srt_perm _).nodup_iff.2 h1
  have h3 := srt_le (dedL (idsR ol) (ledR ol qs))
  rw [List.nodup_iff_pairwise_ne] at h2
  exact (List.Pairwise.and h3 h2).imp fun h => by omega
theorem ded_sub {ol : List SubD} {qs qs' : List QueD} (h8 : qs.length ≤ 8) (h8' : qs'.length ≤ 8) (hs : ∀ q ∈ qs.map QueD.v, q ∈ qs'.map QueD.v) : ∀ id ∈ dedR ol qs, id ∈ dedR ol qs' := fun id h => by
  obtain ⟨a, ha, hi, hu⟩ := (ded_iff h8).1 h
  exact (ded_iff h8').2 ⟨a, ha, hi, hu.mono fun r ⟨q, hq, hr⟩ => ⟨q, hs q hq, hr⟩⟩
theorem eq_sorted {a b : List Int} (ha : a.Pairwise (fun x y => x < y)) (hb : b.Pairwise (fun x y => x < y)) (h : ∀ x, x ∈ a ↔ x ∈ b) : a = b := by
  induction a generalizing b with
  | nil =>
    cases b with
    | nil => rfl
    | cons y r => exact absurd ((h y).2 (by simp)) (by simp)
  | cons x a ih =>
    cases b with
    | nil => exact absurd ((h x).1 (by simp)) (by simp)
    | cons y b =>
      rw [List.pairwise_cons] at ha hb
      have e : x = y := by
        have h1 := (h x).1 (by simp)
        have h2 := (h y).2 (by simp)
        rw [List.mem_cons] at h1 h2
        rcases h1 with h1 | h1
        · exact h1
        · rcases h2 with h2 | h2
          · exact h2.symm
          · have := ha.1 y h2; have := hb.1 x h1; omega
      subst e
      rw [ih ha.2 hb.2 fun z => ?_]
      have h3 := h z
      rw [List.mem_cons, List.mem_cons] at h3
      constructor
      · intro hz
        rcases h3.1 (.inr hz) with rfl | h4
        · have := ha.1 z hz; omega
        · exact h4
      · intro hz
        rcases h3.2 (.inr hz) with rfl | h4
        · have := hb.1 z hz; omega
        · exact h4
theorem len_sorted {a b : List Int} (ha : a.Pairwise (fun x y => x < y)) (hb : b.Pairwise (fun x y => x < y)) (h : ∀ x ∈ a, x ∈ b) : a.length ≤ b.length := by
  induction b generalizing a with
  | nil =>
    cases a with
    | nil => exact Nat.le_refl _
    | cons x r => exact absurd (h x (by simp)) (by simp)
  | cons y b ih =>
    cases a with
    | nil => exact Nat.zero_le _
    | cons x a =>
      rw [List.pairwise_cons] at ha hb
      have h1 := h x (by simp)
      rw [List.mem_cons] at h1
      rcases h1 with rfl | h1
      · have := ih ha.2 hb.2 fun z hz => by
          have h2 := h z (by simp [hz])
          rw [List.mem_cons] at h2
          rcases h2 with rfl | h2
          · have := ha.1 z hz; omega
          · exact h2
        simpa using this
      · have hxy := hb.1 x h1
        have := ih (a := x :: a) (List.pairwise_cons.2 ha) hb.2 fun z hz => by
          have h2 := h z hz
          rw [List.mem_cons] at h2
          rcases h2 with rfl | h2
          · rw [List.mem_cons] at hz
            rcases hz with rfl | hz
            · omega
            · have := ha.1 z hz; omega
          · exact h2
        simp only [List.length_cons] at this ⊢
        omega
/-- How far one list has been found in another one: all that is still sought is still to come. -/
def Still (a b : List Int) (i j : Nat) : Prop := i ≤ a.length ∧ ∀ x ∈ a.drop i, x ∈ b.drop j
theorem still_step {a b : List Int} (ha : a.Pairwise (fun x y => x < y)) (hb : b.Pairwise (fun x y => x < y)) {i j : Nat} (h : Still a b i j) (hj : j < b.length) :
    (∀ hi : i < a.length, a[i] = b[j] → Still a b (i + 1) (j + 1)) ∧ ((∀ hi : i < a.length, a[i] ≠ b[j]) → Still a b i (j + 1)) := by
  obtain ⟨h1, h2⟩ := h
  have hbd : b.drop j = b[j] :: b.drop (j + 1) := List.drop_eq_getElem_cons hj
  have hbp : (b.drop j).Pairwise (fun x y => x < y) := hb.drop
  rw [hbd] at h2 hbp
  rw [List.pairwise_cons] at hbp
  constructor
  · intro hi he
    have had : a.drop i = a[i] :: a.drop (i + 1) := List.drop_eq_getElem_cons hi
    have hap : (a.drop i).Pairwise (fun x y => x < y) := ha.drop
    rw [had, List.pairwise_cons] at hap
    refine ⟨hi, fun x hx => ?_⟩
    have h3 := h2 x (by rw [had]; exact List.mem_cons_of_mem _ hx)
    rw [List.mem_cons] at h3
    rcases h3 with h3 | h3
    · have := hap.1 x hx; omega
    · exact h3
  · intro hne
    refine ⟨h1, fun x hx => ?_⟩
    have h3 := h2 x hx
    rw [List.mem_cons] at h3
    rcases h3 with h3 | h3
    · exfalso
      by_cases hi : i < a.length
      · have had : a.drop i = a[i] :: a.drop (i + 1) := List.drop_eq_getElem_cons hi
        have hap : (a.drop i).Pairwise (fun x y => x < y) := ha.drop
        rw [had, List.pairwise_cons] at hap
        have h4 := h2 a[i] (by rw [had]; exact List.mem_cons_self)
        rw [had, List.mem_cons] at hx
        rw [List.mem_cons] at h4
        rcases h4 with h4 | h4
        · exact hne hi h4
        · have := hbp.1 _ h4
          rcases hx with hx | hx
          · omega
          · have := hap.1 x hx; omega
      · rw [List.drop_eq_nil_of_le (by omega)] at hx
        simp at hx
    · exact h3
theorem still_end {a b : List Int} {i : Nat} (h : Still a b i b.length) : i = a.length := by
  obtain ⟨h1, h2⟩ := h
  rw [List.drop_length] at h2
  rcases Nat.lt_or_ge i a.length with hi | hi
  · have := h2 a[i] (by rw [List.drop_eq_getElem_cons hi]; exact List.mem_cons_self)
    simp at this
  · omega
end Go.Proofs.YtbkekdbabkncfaaGreat

namespace Go.Proofs.YtbkekdbabkncfaaGreat
open Go.RowKit Go.Maps

theorem queInfoM : (Tryz.prog.info? 25).map (fun i => (i.zero, i.size, i.bytes)) = some (some (.agg #[.slice none 0 0, .int .i64 0, .int .i64 0, .int .i64 0]), 4, 48) := by kernel_rfl
theorem queC_oneM (x : QueD) : ∀ u ∈ queC x, u.oneCell' = true := fun u hu => by
  simp only [queC, List.mem_cons, List.not_mem_nil, or_false] at hu
  rcases hu with rfl | rfl | rfl | rfl <;> rfl
theorem ques_own {V : World} {base : Nat} {X : Option Addr} {c n : Nat} {q : List QueD} (h : V.ownsRow base 25 4 (.slice X n c) n (q.flatMap queC)) (hn : n = q.length) (he : ∀ x ∈ q, WhesAt V V.heap.size x.W x.v.wheres) : QuesAt V V.heap.size X q := by
  subst hn
  exact ⟨Flat.of_own (c := c) queC_len (by decide) h, he⟩
theorem avl_of {columns : Int} {q q' : List QueD} (h : avlB columns q = true) (hl : q'.length ≤ 8) (hs : ∀ x ∈ q', x ∈ q) : avlB columns q' = true := by
  unfold avlB at h ⊢
  rw [Bool.and_eq_true, decide_eq_true_eq, List.all_eq_true] at h ⊢
  refine ⟨hl, fun x hx => ?_⟩
  have h1 := h.2 x (hs x hx)
  have hm : q0L q' = (q'.head (by intro e; rw [e] at hx; simp at hx)).v := by
    cases q' with
    | nil => simp at hx
    | cons y r => rfl
  have h2 := h.2 _ (hs _ (List.head_mem (l := q') (by intro e; rw [e] at hx; simp at hx)))
  unfold fitB at h1 h2 ⊢
  rw [Bool.and_eq_true, decide_eq_true_eq] at h1 h2 ⊢
  rw [hm]
  exact ⟨h1.1, by rw [h1.2.1, h2.2.1], by rw [h1.2.2, h2.2.2]⟩
theorem srt_some (l : List SubD) : ∃ ol, SrtOf l ol := by
  refine ⟨l.mergeSort (fun x y => decide (x.v.id ≤ y.v.id)), List.mergeSort_perm l _, ?_⟩
  have h := List.pairwise_mergeSort (le := fun x y : SubD => decide (x.v.id ≤ y.v.id)) (fun a b c h1 h2 => by simp at *; omega) (fun a b => by simp; omega) l
  exact h.imp fun h => of_decide_eq_true h
theorem srt_uniq {l a b : List SubD} (ha : SrtOf l a) (hb : SrtOf l b) (hn : (l.map fun x => x.v.id).Nodup) : a = b := by
  refine List.Perm.eq_of_pairwise (fun x y hx hy h3 h4 => ?_) ha.2 hb.2 (ha.1.trans hb.1.symm)
  have hxl := ha.1.mem_iff.1 hx
  have hyl := hb.1.mem_iff.1 hy
  obtain ⟨i, hi, rfl⟩ := List.mem_iff_getElem.1 hxl
  obtain ⟨j, hj, rfl⟩ := List.mem_iff_getElem.1 hyl
  have he : l[i].v.id = l[j].v.id := by omega
  have : (l.map fun x => x.v.id)[i]'(by simpa using hi) = (l.map fun x => x.v.id)[j]'(by simpa using hj) := by simpa using he
  have := (List.getElem_inj hn).1 this
  subst this; rfl
theorem tab_ids {columns : Int} {l : List SubD} (h : tabB columns (l.map SubD.v) = true) : (l.map fun x => x.v.id).Nodup := by
  have := (ask_parts h).2.2.2
  rw [List.map_map] at this
  exact this
theorem srt_ids {l ol : List SubD} (h : SrtOf l ol) (hn : (l.map fun x => x.v.id).Nodup) : (ol.map fun x => x.v.id).Nodup := (h.1.map _).nodup_iff.2 hn
theorem Rdy.ded0 {columns : Int} {l : List SubD} {A : Option Addr} {c : Nat} {qs : List QueD} {S : Option Addr} {sc : Nat} {w : World} (h : Rdy w columns l A qs S) {ol : List SubD} (ho : SrtOf l ol) :
    Calls Tryz.prog 19 #[.int .i64 columns, .slice A l.length c, .slice S qs.length sc] w fun e w' => ∃ A' c', e = .returned (.tuple #[.slice A' (dedR ol qs).length c', .int .i64 0]) ∧ IntsAt w' w'.heap.size A' (dedR ol qs) ∧ Below w.heap.size w w' := by
  refine (h.deduced (c := c) (sc := sc)).mono ?_
  rintro e w' ⟨ol', A', c', ho', rfl, hf, hb⟩
  obtain rfl := srt_uniq ho'.out ho (tab_ids h.tab)
  exact ⟨A', c', rfl, hf.flat, hb⟩
/-- The same questions, in any order, once or twice, lead to the same ones. -/
theorem ded_same {l ol : List SubD} {q q' : List QueD} (ho : SrtOf l ol) (hn : (l.map fun x => x.v.id).Nodup) (h8 : q.length ≤ 8) (h8' : q'.length ≤ 8) (hs : ∀ x, x ∈ q' ↔ x ∈ q) : dedR ol q' = dedR ol q := by
  have hm : ∀ {a b : List QueD}, (∀ x, x ∈ a → x ∈ b) → ∀ v ∈ a.map QueD.v, v ∈ b.map QueD.v := fun h v hv => by
    obtain ⟨x, hx, rfl⟩ := List.mem_map.1 hv
    exact List.mem_map_of_mem (h x hx)
  refine eq_sorted (ded_lt h8' (srt_ids ho hn)) (ded_lt h8 (srt_ids ho hn)) fun id => ⟨fun h => ?_, fun h => ?_⟩
  · exact ded_sub h8' h8 (hm fun x hx => (hs x).1 hx) id h
  · exact ded_sub h8 h8' (hm fun x hx => (hs x).2 hx) id h
theorem ded8 {ol : List SubD} {qs : List QueD} (h8 : qs.length ≤ 8) : (dedR ol qs).length ≤ 8 := by
  unfold dedR
  rw [(srt_perm _).length_eq]
  unfold dedL
  rw [List.length_map]
  exact Nat.le_trans (List.length_filter_le _ _) (led_ok ol qs h8).2.2
end Go.Proofs.YtbkekdbabkncfaaGreat
