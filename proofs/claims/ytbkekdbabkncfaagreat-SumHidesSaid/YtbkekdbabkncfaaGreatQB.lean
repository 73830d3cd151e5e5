/- An elimination that does not stop half-way: the same rows. -/
import Derived.Test.YtbkekdbabkncfaaGreatV3
import Derived.Test.YtbkekdbabkncfaaGreatQA
import Derived.Test.YtbkekdbabkncfaaGreatV6

namespace Go.Proofs.YtbkekdbabkncfaaGreat
open Go.RowKit Go.Maps Det

def lesE (ls : List Led) (e : Eqn) : Eqn := ls.foldl witE e
def lesB : List Led → Eqn → Bool
  | [], _ => true
  | l :: r, e => witB e l && lesB r (witE e l)
def refS (ls : List Led) (e : Eqn) : List Led := if empE (lesE ls e) = true then ls else joinL ls (leadE (lesE ls e))
def refB (ls : List Led) (e : Eqn) : Bool := lesB ls e && (empE (lesE ls e) || (leadB (lesE ls e) && joinB ls (leadE (lesE ls e))))
theorem emp_of {S m : Nat} {e : Eqn} (h : EqOk S m e) (hz : ∀ c, c < S → col S e c = 0) : empE e = true := by
  unfold empE
  rw [fnd_none (fun j hj _ => ?_)]
  · rfl
  · have h1 := hz j (by rw [← h.fl]; exact hj)
    rw [← h.fget (by rw [← h.fl]; exact hj)] at h1
    rw [← getD_lt _ default hj, someF_ok (getD_ok h.fo j), h1]
    simp
theorem emp_wit {S m : Nat} {e : Eqn} {l : Led} (h : EqOk S m e) (hl : EqOk S m l.e) (ha : l.at_ < S) (he : empE e = true) : empE (witE e l) = true := by
  obtain ⟨h1, h2⟩ := col_wit h hl ha
  refine emp_of h1 fun c hc => ?_
  rw [h2, emp_zero h he hc, emp_zero h he ha]
  grind
theorem les_wf {S m : Nat} : ∀ (ls : List Led) (x : Eqn), (∀ l ∈ ls, EqOk S m l.e ∧ l.at_ < S) → EqOk S m x → EqOk S m (lesE ls x)
  | [], _, _, hx => hx
  | l :: r, x, h, hx => les_wf r (witE x l) (fun y hy => h y (by simp [hy])) (col_wit hx (h l (by simp)).1 (h l (by simp)).2).1
theorem les_emp {S m : Nat} : ∀ (ls : List Led) (x : Eqn), (∀ l ∈ ls, EqOk S m l.e ∧ l.at_ < S) → EqOk S m x → empE x = true → empE (lesE ls x) = true
  | [], _, _, _, he => he
  | l :: r, x, h, hx, he => by
    obtain ⟨hl, ha⟩ := h l (by simp)
    exact les_emp r (witE x l) (fun y hy => h y (by simp [hy])) (col_wit hx hl ha).1 (emp_wit hx hl ha he)
theorem red_les {S m : Nat} : ∀ (ls : List Led) (x : Eqn), (∀ l ∈ ls, EqOk S m l.e ∧ l.at_ < S) → EqOk S m x → (∀ y, redE ls x = some y → lesE ls x = y) ∧ (redE ls x = none → empE (lesE ls x) = true)
  | [], x, _, _ => ⟨fun y hy => by simpa [redE, lesE] using hy, fun h => by simp [redE] at h⟩
  | l :: r, x, h, hx => by
    obtain ⟨hl, ha⟩ := h l (by simp)
    have h2 := (col_wit hx hl ha).1
    have h3 : ∀ l ∈ r, EqOk S m l.e ∧ l.at_ < S := fun y hy => h y (by simp [hy])
    have ih := red_les r (witE x l) h3 h2
    by_cases he : empE (witE x l) = true
    · refine ⟨fun y hy => ?_, fun _ => les_emp r _ h3 h2 he⟩
      unfold redE at hy
      rw [if_pos he] at hy
      cases hy
    · refine ⟨fun y hy => ?_, fun hy => ?_⟩
      · unfold redE at hy
        rw [if_neg he] at hy
        exact ih.1 y hy
      · unfold redE at hy
        rw [if_neg he] at hy
        exact ih.2 hy
theorem les_ok {S m : Nat} {ls : List Led} (hw : ∀ l ∈ ls, EqOk S m l.e ∧ l.at_ < S) {e : Nat → Nat → Rat} (h : Inv ls.length e (Lf S ls) (Pf ls)) (hr : ls.length ≤ 7) {v : Nat → Rat} (hv : ∀ c, Bit (v c)) :
    ∀ (suf pre : List Led) (x : Eqn), ls = pre ++ suf → EqOk S m x → (∀ c, col S x c = Det.part v (Lf S ls) (Pf ls) pre.length c) → lesB suf x = true
  | [], _, _, _, _, _ => rfl
  | l :: r, pre, x, hs, hx, hc => by
    have hlen : ls.length = pre.length + (r.length + 1) := by rw [hs]; simp
    have hk : pre.length < ls.length := by omega
    have hg : ls.getD pre.length dE = l := by
      rw [getD_lt _ _ hk]
      simp [hs]
    have hm : l ∈ ls := by rw [hs]; simp
    obtain ⟨hl, ha⟩ := hw l hm
    have eL : ∀ c, Lf S ls pre.length c = col S l.e c := fun c => by unfold Lf; rw [hg]
    have eP : Pf ls pre.length = l.at_ := by unfold Pf; rw [hg]
    have hf := fct7 hr
    have hat : col S x l.at_ = v l.at_ := by
      have := h.part_at v (k := pre.length) (j := pre.length) (by omega) hk
      rw [if_neg (Nat.lt_irrefl _), eP] at this
      rw [hc, this]
    have hover : ∀ c, Over (det ls.length (fun k j => e k (Pf ls j))) (fct ls.length) (col S l.e c) := fun c => by rw [← eL]; exact h.over hk c
    obtain ⟨hE, hC⟩ := col_wit hx hl ha
    have hB : witB x l = true := wit_bd hx hl ha (a := (pre.length + 1) * fct ls.length) (fun c => by rw [hc]; exact h.part_over hv (by omega) c) h.den h.dne hover h.den h.dne (a'' := fct ls.length) (fun c => by
        rw [hat]
        unfold Over
        rw [Rat.mul_assoc]
        exact ((hv l.at_).intB.mul (hover c)).mono (by omega)) h.den h.dne
      (by have h1 : (pre.length + 1) * fct ls.length ≤ 8 * 5040 := Nat.mul_le_mul (by omega) hf
          omega) (by omega) (by omega) (by omega) (by omega) (by omega)
    have ih := les_ok hw h hr hv r (pre ++ [l]) (witE x l) (by rw [hs]; simp) hE (fun c => by
      rw [hC, hc, hat, List.length_append]
      show _ = Det.part v (Lf S ls) (Pf ls) (pre.length + 1) c
      rw [part_succ, eL, eP])
    simp only [lesB, hB, ih, Bool.and_true]
theorem ref_eq {S m : Nat} {ls : List Led} (h : LOk S m ls) (hr : ls.length ≤ 7) {x : Eqn} (hx : EqOk S m x) (hb : ∀ c, Bit (col S x c)) : refB ls x = true ∧ refS ls x = if empE x = true then ls else solS ls x := by
  obtain ⟨hw, e, hi⟩ := h
  have h1 : lesB ls x = true := les_ok hw hi hr hb ls [] x rfl hx (fun c => by
    show _ = col S x c - 0
    grind)
  obtain ⟨r1, r2⟩ := red_les ls x hw hx
  unfold refB refS
  rw [h1]
  cases he : empE x with
  | true =>
    rw [les_emp ls x hw hx he]
    exact ⟨rfl, rfl⟩
  | false =>
    obtain ⟨s1, _⟩ := sol_ok ⟨hw, e, hi⟩ hr hx hb he
    unfold solB1 at s1
    unfold solS
    cases hy : redE ls x with
    | none =>
      rw [r2 hy]
      exact ⟨rfl, rfl⟩
    | some y =>
      rw [hy] at s1
      rw [Bool.and_eq_true] at s1
      have hye := r1 y hy
      rw [hye]
      have hyn : empE y = false := by
        obtain ⟨_, q2⟩ := red_ok hw hi hr hb ls [] x rfl hx (fun c => by
          show _ = col S x c - 0
          grind)
        exact (q2 y hy).2.2 he
      rw [hyn]
      exact ⟨by simpa using s1.2, rfl⟩
/-- The equation of a question. -/
def eqnQ (ol : List SubD) (m k : Nat) (q : Que) : Eqn := ⟨digL (bitsN (askL q ol)) ol.length, digL (2 ^ k) m⟩
/-- The rows after k questions. -/
def refK (ol : List SubD) (qs : List Que) : Nat → List Led
  | 0 => []
  | k + 1 => refS (refK ol qs k) (eqnQ ol qs.length k (qs.getD k ⟨[], 0, 0, 0⟩))
theorem refK_all {ol : List SubD} {qs : List Que} (h8 : qs.length ≤ 8) : ∀ k, k ≤ qs.length → LOk ol.length qs.length (refK ol qs k) ∧ (refK ol qs k).length ≤ k ∧ (k < qs.length → refB (refK ol qs k) (eqnQ ol qs.length k (qs.getD k ⟨[], 0, 0, 0⟩)) = true) ∧ solL (refK ol qs k) (eqnL ol qs.length k (qs.drop k)) = solL [] (eqnL ol qs.length 0 qs) := by
  have key : ∀ k, k ≤ qs.length → LOk ol.length qs.length (refK ol qs k) ∧ (refK ol qs k).length ≤ k ∧ solL (refK ol qs k) (eqnL ol qs.length k (qs.drop k)) = solL [] (eqnL ol qs.length 0 qs) := by
    intro k
    induction k with
    | zero => intro _; exact ⟨LOk.nil _ _, Nat.le_refl _, rfl⟩
    | succ k ih =>
      intro hk
      obtain ⟨i1, i2, i3⟩ := ih (by omega)
      obtain ⟨x1, x2⟩ := eqn_ok (bitsN (askL (qs.getD k ⟨[], 0, 0, 0⟩) ol)) (2 ^ k) ol.length qs.length
      obtain ⟨_, r2⟩ := ref_eq i1 (by omega) x1 x2
      have hd : qs.drop k = qs.getD k ⟨[], 0, 0, 0⟩ :: qs.drop (k + 1) := by rw [getD_lt _ _ (by omega : k < qs.length)]; exact List.drop_eq_getElem_cons (by omega)
      rw [hd] at i3
      simp only [eqnL] at i3
      show LOk ol.length qs.length (refS (refK ol qs k) (eqnQ ol qs.length k (qs.getD k ⟨[], 0, 0, 0⟩))) ∧ (refS (refK ol qs k) (eqnQ ol qs.length k (qs.getD k ⟨[], 0, 0, 0⟩))).length ≤ k + 1 ∧ solL (refS (refK ol qs k) (eqnQ ol qs.length k (qs.getD k ⟨[], 0, 0, 0⟩))) _ = _
      unfold eqnQ
      rw [r2]
      by_cases hz : bitsN (askL (qs.getD k ⟨[], 0, 0, 0⟩) ol) = 0
      · rw [if_pos hz] at i3
        have he : empE ⟨digL (bitsN (askL (qs.getD k ⟨[], 0, 0, 0⟩) ol)) ol.length, digL (2 ^ k) qs.length⟩ = true := emp_of x1 fun c hc => by
          rw [← x1.fget hc]
          exact row_zero hz hc
        rw [if_pos he]
        exact ⟨i1, by omega, i3⟩
      · rw [if_neg hz] at i3
        have he : empE ⟨digL (bitsN (askL (qs.getD k ⟨[], 0, 0, 0⟩) ol)) ol.length, digL (2 ^ k) qs.length⟩ = false := by
          have := eqn_some (askL (qs.getD k ⟨[], 0, 0, 0⟩) ol) (2 ^ k) qs.length hz
          rwa [askL_len] at this
        rw [if_neg (by rw [he]; decide)]
        simp only [solL] at i3
        have hlen := solS_le (refK ol qs k) ⟨digL (bitsN (askL (qs.getD k ⟨[], 0, 0, 0⟩) ol)) ol.length, digL (2 ^ k) qs.length⟩
        exact ⟨(sol_ok i1 (by omega) x1 x2 he).2, by omega, i3⟩
  intro k hk
  obtain ⟨i1, i2, i3⟩ := key k hk
  refine ⟨i1, i2, fun hlt => ?_, i3⟩
  obtain ⟨x1, x2⟩ := eqn_ok (bitsN (askL (qs.getD k ⟨[], 0, 0, 0⟩) ol)) (2 ^ k) ol.length qs.length
  exact (ref_eq i1 (by omega) x1 x2).1
theorem refK_led {ol : List SubD} {qs : List QueD} (h8 : qs.length ≤ 8) : refK ol (qs.map QueD.v) qs.length = ledR ol qs := by
  have h := (refK_all (ol := ol) (qs := qs.map QueD.v) (by simpa using h8) qs.length (by simp)).2.2.2
  rw [List.length_map, List.drop_of_length_le (by simp)] at h
  exact h
/-- A row: both lists one behind the other. -/
def rowL (e : Eqn) : List Frc := e.fs ++ e.ps
theorem row_wit {S m : Nat} {e : Eqn} {l : Led} (h : EqOk S m e) (hl : EqOk S m l.e) : rowL (witE e l) = lessL (rowL e) (e.fs.getD l.at_ default) (rowL l.e) := by
  unfold rowL witE lessL
  dsimp only
  rw [List.zipWith_append (by rw [h.fl, hl.fl])]
theorem row_div (e : Eqn) (x : Frc) : divL (rowL e) x = divL e.fs x ++ divL e.ps x := by unfold rowL divL; rw [List.map_append]
theorem row_len {S m : Nat} {e : Eqn} (h : EqOk S m e) : (rowL e).length = S + m := by unfold rowL; rw [List.length_append, h.fl, h.pl]
theorem row_get {S m : Nat} {e : Eqn} (h : EqOk S m e) {i : Nat} (hi : i < S) : (rowL e).getD i default = e.fs.getD i default := by
  unfold rowL
  rw [getD_lt _ _ (by rw [List.length_append, h.fl]; omega), getD_lt _ _ (by rw [h.fl]; exact hi), List.getElem_append_left (by rw [h.fl]; exact hi)]
theorem row_witB {S m : Nat} {e : Eqn} {l : Led} (h : EqOk S m e) (hl : EqOk S m l.e) (hb : witB e l = true) : lessB (rowL e) (e.fs.getD l.at_ default) (rowL l.e) = true := by
  unfold witB at hb
  rw [Bool.and_eq_true, Bool.and_eq_true] at hb
  obtain ⟨a1, a2, a3, a4, _⟩ := less_parts hb.1.2
  obtain ⟨b1, _, b3, b4, _⟩ := less_parts hb.2
  unfold lessB rowL
  simp only [Bool.and_eq_true, List.all_eq_true, decide_eq_true_eq, List.mem_append, List.length_append]
  refine ⟨⟨⟨⟨?_, a2⟩, ?_⟩, ?_⟩, by rw [h.fl, h.pl, hl.fl, hl.pl]; omega⟩
  · rintro x (hx | hx)
    · exact a1 x hx
    · exact b1 x hx
  · rintro x (hx | hx)
    · exact a3 x hx
    · exact b3 x hx
  · rintro x (hx | hx)
    · exact a4 x hx
    · exact b4 x hx
end Go.Proofs.YtbkekdbabkncfaaGreat

namespace Go.Proofs.YtbkekdbabkncfaaGreat
open Go.RowKit Go.Maps

/-- A row, and where its cells lie. -/
structure RowD where
  v : Led
  A : Option Addr
  c : Nat
instance : Inhabited RowD := ⟨⟨⟨⟨[], []⟩, 0⟩, none, 0⟩⟩
def rowC (x : RowD) : List Value := [.int .i64 x.v.at_, .slice x.A (rowL x.v.e).length x.c]
theorem rowC_len (x : RowD) : (rowC x).length = 2 := rfl
theorem rowC_one (x : RowD) : ∀ u ∈ rowC x, u.oneCell' = true := fun u hu => by
  simp only [rowC, List.mem_cons, List.not_mem_nil, or_false] at hu
  rcases hu with rfl | rfl <;> rfl
theorem row10Info : (Tryz.prog.info? 98).map (fun i => (i.zero, i.size, i.bytes)) = some (some (.agg #[.int .i64 0, .slice none 0 0]), 2, 32) := by kernel_rfl
theorem own_capQ {w : World} {base : Nat} {e : TypeId} {size n c : Nat} {A : Option Addr} {xs : List Value} (h : w.ownsRow base e size (.slice A n c) n xs) : n ≤ c := by
  rcases h.2 with ⟨e1, e2⟩ | ⟨g, cap, cur, e1, _, _, h2, _⟩
  · omega
  · injection e1 with _ _ e3; omega
/-- A list of rows, that may be written. -/
def RowsOwn (B : Nat) (w : World) (A : Option Addr) (c : Nat) (L : List RowD) : Prop := w.ownsRow B 98 2 (.slice A L.length c) L.length (L.flatMap rowC) ∧ ∀ x ∈ L, FlatP 2 frcC w (fun b => (Value.slice A L.length c).ownBlock ≠ some b) x.A (rowL x.v.e) ∧ (rowL x.v.e).length ≤ x.c
theorem RowsOwn.nil (B : Nat) (w : World) : RowsOwn B w none 0 [] := ⟨World.ownsRow_nil _ _ _ _, fun x hx => by simp at hx⟩
theorem RowsOwn.later {B : Nat} {w w' : World} {A : Option Addr} {c : Nat} {L : List RowD} (h : RowsOwn B w A c L) (hb : Below w.heap.size w w') : RowsOwn B w' A c L :=
  ⟨own_below h.1 hb, fun x hx => ⟨(h.2 x hx).1.move (Fr.below hb), (h.2 x hx).2⟩⟩
theorem RowsOwn.frc {B : Nat} {w : World} {A : Option Addr} {c : Nat} {L : List RowD} (h : RowsOwn B w A c L) {i : Nat} (hi : i < L.length) : FrcAt w w.heap.size L[i].A (rowL L[i].v.e) := (h.2 _ (List.getElem_mem hi)).1.flat
theorem rows_put {B : Nat} {w w2 : World} {g c i : Nat} {L : List RowD} (h : RowsOwn B w (some ⟨g, 0, none⟩) c L) (hi : i < L.length) (hb : Below w.heap.size w w2) {v : Led} {F : Option Addr} {f : Nat} (hF : FlatP 2 frcC w2 (fun b => w.heap.size ≤ b) F (rowL v.e)) (hc : (rowL v.e).length ≤ f) :
    RowsOwn B ((w2.setCell ⟨g, i * 2 + 0, none⟩ (.int .i64 v.at_)).setCell ⟨g, i * 2 + 1, none⟩ (.slice F (rowL v.e).length f)) (some ⟨g, 0, none⟩) c (L.set i ⟨v, F, f⟩) := by
  have hgl := h.1.lt g rfl
  have ho := own_below h.1 hb
  have h1 := (ho.stored (i * 2 + 0) (.int .i64 v.at_)).1
  rw [← flat_set rowC_len L i hi ⟨⟨L[i].v.e, v.at_⟩, L[i].A, L[i].c⟩ 0 (.int .i64 v.at_) (by decide) rfl] at h1
  have h2 := (h1.stored (i * 2 + 1) (.slice F (rowL v.e).length f)).1
  have hi2 : i < (L.set i ⟨⟨L[i].v.e, v.at_⟩, L[i].A, L[i].c⟩).length := by simpa using hi
  rw [← flat_set rowC_len (L.set i ⟨⟨L[i].v.e, v.at_⟩, L[i].A, L[i].c⟩) i hi2 ⟨v, F, f⟩ 1 (.slice F (rowL v.e).length f) (by decide) (by simp [rowC]), List.set_set] at h2
  have hS : Fr (fun b => g ≠ b) w2 ((w2.setCell ⟨g, i * 2 + 0, none⟩ (.int .i64 v.at_)).setCell ⟨g, i * 2 + 1, none⟩ (.slice F (rowL v.e).length f)) := (Fr.set (p := ⟨g, i * 2 + 0, none⟩) (fun e => e rfl) _).trans (Fr.set (p := ⟨g, i * 2 + 1, none⟩) (fun e => e rfl) _)
  refine ⟨by simpa using h2, fun x hx => ?_⟩
  simp only [List.length_set]
  rcases List.mem_or_eq_of_mem_set hx with h3 | h3
  · have := h.2 x h3
    exact ⟨(((this.1.move (Fr.below hb)).imp (Q := fun b => g ≠ b) (fun b _ h e => h (by simp [Value.ownBlock, e]))).move hS).imp (fun b _ h e => h (by simpa [Value.ownBlock] using e)), this.2⟩
  · subst h3
    exact ⟨((hF.imp (Q := fun b => g ≠ b) (fun b _ h e => by omega)).move hS).imp (fun b _ h e => h (by simpa [Value.ownBlock] using e)), hc⟩
theorem rows_at {B : Nat} {w : World} {A : Option Addr} {c : Nat} {L : List RowD} (h : RowsOwn B w A c L) {i : Nat} (hi : i < L.length) : ∃ g, A = some ⟨g, 0, none⟩ ∧ B ≤ g ∧ g < w.heap.size ∧ w.cell? ⟨g, i * 2, none⟩ = some (.int .i64 L[i].v.at_) ∧ w.cell? ⟨g, i * 2 + 1, none⟩ = some (.slice L[i].A (rowL L[i].v.e).length L[i].c) ∧ (∀ k, w.frozen? ⟨g, k, none⟩ = false) := by
  obtain ⟨g, cap, hv, hgb, hglt⟩ := h.1.form (by omega)
  simp only [Value.slice.injEq, true_and] at hv
  obtain ⟨rfl, rfl⟩ := hv
  have hl := flat_len rowC_len L
  exact ⟨g, rfl, hgb, hglt, (h.1.cellAt (i * 2 + 0) (by omega)).trans (flat_get rowC_len L i hi 0 (by decide)), (h.1.cellAt (i * 2 + 1) (by omega)).trans (flat_get rowC_len L i hi 1 (by decide)), fun k => h.1.frozenAt k⟩
theorem rows_snoc {B : Nat} {w w3 : World} {A A' : Option Addr} {c c' : Nat} {L : List RowD} {x : RowD} (hO : RowsOwn B w A c L) (hx : FlatP 2 frcC w (fun b => (Value.slice A L.length c).ownBlock ≠ some b) x.A (rowL x.v.e)) (hxc : (rowL x.v.e).length ≤ x.c) (hg : w.grownBy w3 (Value.slice A L.length c).ownBlock) (hor : (Value.slice A' (L.length + 1) c').ownBlock = (Value.slice A L.length c).ownBlock ∨ ∃ k, (Value.slice A' (L.length + 1) c').ownBlock = some k ∧ w.heap.size ≤ k) (hown : w3.ownsRow B 98 2 (.slice A' (L.length + 1) c') (L.length + 1) (L.flatMap rowC ++ rowC x)) : RowsOwn B w3 A' c' (L ++ [x]) := by
  have hmv : ∀ (F : Option Addr) (l : List Frc), FlatP 2 frcC w (fun b => (Value.slice A L.length c).ownBlock ≠ some b) F l → FlatP 2 frcC w3 (fun b => (Value.slice A' (L.length + 1) c').ownBlock ≠ some b) F l := fun F l h => by
    refine ((h.imp (Q := fun b => (Value.slice A L.length c).ownBlock ≠ some b ∧ b < w.heap.size) (fun b hb h => ⟨h, hb⟩)).move (Fr.grown hg (fun b hb e => hb.1 e.symm))).imp (fun b _ hb e => ?_)
    rcases hor with h1 | ⟨k, h1, h2⟩
    · rw [h1] at e; exact hb.1 e
    · rw [h1] at e; cases e; omega
  refine ⟨?_, fun y hy => ?_⟩
  · rw [List.flatMap_append, List.length_append]
    simpa using hown
  · rw [List.length_append]
    rw [List.mem_append] at hy
    rcases hy with h1 | h1
    · exact ⟨hmv _ _ (hO.2 y h1).1, (hO.2 y h1).2⟩
    · rw [List.mem_singleton] at h1
      subst h1
      exact ⟨hmv _ _ hx, hxc⟩
theorem frc_putQ {B g c i : Nat} {w : World} {l : List Frc} (h : w.ownsRow B 101 2 (.slice (some ⟨g, 0, none⟩) l.length c) l.length (l.flatMap frcC)) (hi : i < l.length) (y : Frc) :
    ((w.setCell ⟨g, i * 2 + 0, none⟩ (.int .i64 y.n)).setCell ⟨g, i * 2 + 1, none⟩ (.int .i64 y.d)).ownsRow B 101 2 (.slice (some ⟨g, 0, none⟩) l.length c) l.length ((l.set i y).flatMap frcC) := by
  have h1 := (h.stored (i * 2 + 0) (.int .i64 y.n)).1
  rw [← flat_set frcC_len l i hi ⟨y.n, l[i].d⟩ 0 (.int .i64 y.n) (by decide) rfl] at h1
  have h2 := (h1.stored (i * 2 + 1) (.int .i64 y.d)).1
  rw [← flat_set frcC_len (l.set i ⟨y.n, l[i].d⟩) i (by simpa using hi) y 1 (.int .i64 y.d) (by decide) (by simp [frcC]), List.set_set] at h2
  exact h2

/-- The cells of a question's row that are asked for first: of the people, then of the questions. -/
def bitF (b : Bool) : Frc := if b = true then ⟨1, 1⟩ else ⟨0, 1⟩
theorem eqn_row (ol : List SubD) (m k : Nat) (q : Que) : rowL (eqnQ ol m k q) = (ol.map fun x => bitF (askB x.v q)) ++ (List.range m).map fun i => bitF (decide (i = k)) := by
  unfold rowL eqnQ
  dsimp only
  congr 1
  · unfold digL
    refine List.ext_getElem (by simp) fun i h1 h2 => ?_
    have hi : i < ol.length := by simpa using h2
    have hl : i < (askL q ol).length := by rw [askL_len]; exact hi
    have hb := bitsN_bit (askL q ol) i hl
    have he : (askL q ol).getD i false = askB ol[i].v q := by
      rw [getD_lt _ _ hl]
      simp [askL]
    rw [he] at hb
    rw [List.getElem_map, List.getElem_map, List.getElem_range, hb]
    unfold bitF
    cases askB ol[i].v q <;> rfl
  · unfold digL
    refine List.map_congr_left fun i _ => ?_
    rw [two_pow_bit]
    unfold bitF
    by_cases h : i = k
    · subst h; simp; rfl
    · rw [if_neg h, decide_eq_false h]; rfl
end Go.Proofs.YtbkekdbabkncfaaGreat

namespace Go.Proofs.YtbkekdbabkncfaaGreat
open Go.RowKit Go.Maps

/-- The row that is being made: its block, and its cells, which may be written. -/
structure RSt (W0 wr : World) (a : Int) (cs : List Frc) (A2 : Option Addr) (c2 : Nat) : Prop where
  size : W0.heap.size + 1 ≤ wr.heap.size
  below : Below W0.heap.size W0 wr
  blk : Blk wr W0.heap.size #[.int .i64 a, .slice A2 cs.length c2] 98
  own : wr.ownsRow (W0.heap.size + 1) 101 2 (.slice A2 cs.length c2) cs.length (cs.flatMap frcC)
theorem RSt.new (W0 : World) : RSt W0 (W0.alloc (.cells #[.int .i64 (-1), .slice none 0 0] 98)) (-1) [] none 0 :=
  ⟨by simp, (Below.refl _ _).alloc (Nat.le_refl _) _, Blk.new _ _ _, World.ownsRow_nil _ _ _ _⟩
theorem RSt.later {W0 wr w2 : World} {a : Int} {cs : List Frc} {A2 : Option Addr} {c2 : Nat} (h : RSt W0 wr a cs A2 c2) (hb : Below wr.heap.size wr w2) : RSt W0 w2 a cs A2 c2 :=
  ⟨Nat.le_trans h.size hb.size, h.below.trans (hb.mono h.below.size), h.blk.below hb h.blk.lt, own_below h.own hb⟩
theorem RSt.ne {W0 wr : World} {a : Int} {cs : List Frc} {A2 : Option Addr} {c2 : Nat} (h : RSt W0 wr a cs A2 c2) : some W0.heap.size ≠ (Value.slice A2 cs.length c2).ownBlock := fun e => by
  have := (h.own.lt _ e.symm).1
  omega
/-- One cell more. -/
theorem RSt.snoc {W0 wr w4 : World} {a : Int} {cs : List Frc} {A2 A3 : Option Addr} {c2 c3 : Nat} {y : Frc} {o : Obj} (h : RSt W0 wr a cs A2 c2) (hg : (wr.alloc o).grownBy w4 (Value.slice A2 cs.length c2).ownBlock) (ho : w4.ownsRow (W0.heap.size + 1) 101 2 (.slice A3 (cs.length + 1) c3) (cs.length + 1) (cs.flatMap frcC ++ frcC y)) :
    RSt W0 (w4.setCell ⟨W0.heap.size, 1, none⟩ (.slice A3 (cs.length + 1) c3)) a (cs ++ [y]) A3 c3 := by
  have hs := hg.size
  have hz := h.size
  simp only [World.size_alloc] at hs
  refine ⟨by simp only [World.size_setCell]; omega, ?_, ?_, ?_⟩
  · exact ((h.below.alloc h.below.size o).grown hg (by simp only [World.size_alloc]; omega) (fun k e => by have := (h.own.lt k e).1; omega)).setCell (Nat.le_refl _) _
  · have := ((h.blk.alloc o).grown hg h.ne).set 1 (.slice A3 (cs.length + 1) c3)
    simpa using this
  · rw [List.length_append, List.flatMap_append]
    simpa using own_farQ ho (p := ⟨W0.heap.size, 1, none⟩) (Nat.lt_succ_self _) (.slice A3 (cs.length + 1) c3)
theorem RSt.grown {W0 wr w4 : World} {a : Int} {cs : List Frc} {A2 : Option Addr} {c2 : Nat} {o : Obj} (h : RSt W0 wr a cs A2 c2) (hg : (wr.alloc o).grownBy w4 (Value.slice A2 cs.length c2).ownBlock) : Blk w4 W0.heap.size #[.int .i64 a, .slice A2 cs.length c2] 98 :=
  (h.blk.alloc o).grown hg h.ne
/-- Cells anew. -/
theorem RSt.put {W0 wr w4 : World} {a a' : Int} {cs cs' : List Frc} {A2 A3 : Option Addr} {c2 c3 : Nat} (h : RSt W0 wr a cs A2 c2) (hb : Below wr.heap.size wr w4) (ho : w4.ownsRow wr.heap.size 101 2 (.slice A3 cs'.length c3) cs'.length (cs'.flatMap frcC)) :
    RSt W0 ((w4.setCell ⟨W0.heap.size, 0, none⟩ (.int .i64 a')).setCell ⟨W0.heap.size, 1, none⟩ (.slice A3 cs'.length c3)) a' cs' A3 c3 := by
  have hs := hb.size
  have hz := h.size
  refine ⟨by simp only [World.size_setCell]; omega, ?_, ?_, ?_⟩
  · exact ((h.below.trans (hb.mono h.below.size)).setCell (Nat.le_refl _) _).setCell (Nat.le_refl _) _
  · have := ((h.blk.below hb h.blk.lt).set 0 (.int .i64 a')).set 1 (.slice A3 cs'.length c3)
    simpa using this
  · exact own_lowQ (own_farQ (own_farQ ho (p := ⟨W0.heap.size, 0, none⟩) (by show W0.heap.size < wr.heap.size; omega) _) (p := ⟨W0.heap.size, 1, none⟩) (by show W0.heap.size < wr.heap.size; omega) _) hz
/-- Another leader. -/
theorem RSt.lead {W0 wr : World} {a : Int} {cs : List Frc} {A2 : Option Addr} {c2 : Nat} (h : RSt W0 wr a cs A2 c2) (a' : Int) : RSt W0 (wr.setCell ⟨W0.heap.size, 0, none⟩ (.int .i64 a')) a' cs A2 c2 := by
  refine ⟨by simp only [World.size_setCell]; exact h.size, h.below.setCell (Nat.le_refl _) _, ?_, own_farQ h.own (p := ⟨W0.heap.size, 0, none⟩) (Nat.lt_succ_self _) _⟩
  have := h.blk.set 0 (.int .i64 a')
  simpa using this
theorem RSt.frc {W0 wr : World} {a : Int} {cs : List Frc} {A2 : Option Addr} {c2 : Nat} (h : RSt W0 wr a cs A2 c2) : FrcAt wr wr.heap.size A2 cs := Flat.of_own (c := c2) frcC_len (by decide) h.own
/-- The rows before stand below. -/
theorem tab_perm {columns : Int} {l ol : List SubD} (hp : ol.Perm l) (h : tabB columns (l.map SubD.v) = true) : tabB columns (ol.map SubD.v) = true := by
  unfold tabB at h ⊢
  simp only [Bool.and_eq_true, decide_eq_true_eq, List.all_eq_true, List.length_map] at h ⊢
  refine ⟨⟨⟨h.1.1.1, by rw [hp.length_eq]; exact h.1.1.2⟩, fun s hs => ?_⟩, ?_⟩
  · obtain ⟨x, hx, rfl⟩ := List.mem_map.1 hs
    exact h.1.2 _ (List.mem_map_of_mem (hp.mem_iff.1 hx))
  · exact (((hp.map SubD.v).map Sub.id).nodup_iff).2 h.2
theorem les_step : ∀ (ls : List Led) (e : Eqn), lesB ls e = true → ∀ i, (hi : i < ls.length) → witB (lesE (ls.take i) e) ls[i] = true ∧ lesE (ls.take (i + 1)) e = witE (lesE (ls.take i) e) ls[i]
  | [], _, _, _, hi => absurd hi (by simp)
  | l :: r, e, h, 0, _ => by
    simp only [lesB, Bool.and_eq_true] at h
    exact ⟨h.1, rfl⟩
  | l :: r, e, h, i + 1, hi => by
    simp only [lesB, Bool.and_eq_true] at h
    have := les_step r (witE e l) h.2 i (by simpa using hi)
    exact this
theorem les_take_wf {S m : Nat} {ls : List Led} {x : Eqn} (hw : ∀ l ∈ ls, EqOk S m l.e ∧ l.at_ < S) (hx : EqOk S m x) (i : Nat) : EqOk S m (lesE (ls.take i) x) :=
  les_wf _ _ (fun l hl => hw l (List.mem_of_mem_take hl)) hx
theorem eqnQ_ok (ol : List SubD) (m k : Nat) (q : Que) : EqOk ol.length m (eqnQ ol m k q) := (eqn_ok _ _ _ _).1
/-- An index, or -1. -/
def atI : Option Nat → Int
  | some c => c
  | none => -1
theorem fnd_step {l : List Frc} {i : Nat} (hi : i < l.length) : fndF l i = if someF l[i] = true then some i else fndF l (i + 1) := by
  split
  · rename_i h
    exact fnd_some hi (Nat.le_refl _) h fun j hj h1 h2 => by omega
  · rename_i h
    have h0 : someF l[i] = false := by simpa using h
    cases hf : fndF l (i + 1) with
    | none =>
      refine fnd_none fun j hj hk => ?_
      by_cases hji : j = i
      · subst hji; exact h0
      · unfold fndF at hf
        rw [List.find?_eq_none] at hf
        have := hf j (List.mem_range.2 hj)
        rw [getD_lt _ _ hj, decide_eq_true (by omega : i + 1 ≤ j)] at this
        simpa using this
    | some c =>
      unfold fndF at hf
      rw [List.find?_range_eq_some] at hf
      obtain ⟨h1, h2, h3⟩ := hf
      rw [List.mem_range] at h2
      rw [getD_lt _ _ h2, Bool.and_eq_true, decide_eq_true_eq] at h1
      refine fnd_some h2 (by omega) h1.2 fun j hj hk hjc => ?_
      by_cases hji : j = i
      · subst hji; exact h0
      · have := h3 j hjc
        rw [getD_lt _ _ hj, decide_eq_true (by omega : i + 1 ≤ j)] at this
        simpa using this
theorem fnd_end (l : List Frc) : fndF l l.length = none := fnd_none fun j hj hk => by omega
/-- One cell anew, in place. -/
theorem RSt.cell {W0 wr w6 : World} {a : Int} {cs : List Frc} {g c2 i : Nat} (h : RSt W0 wr a cs (some ⟨g, 0, none⟩) c2) (hb : Below wr.heap.size wr w6) (hi : i < cs.length) (y : Frc) :
    RSt W0 ((w6.setCell ⟨g, i * 2, none⟩ (.int .i64 y.n)).setCell ⟨g, i * 2 + 1, none⟩ (.int .i64 y.d)) a (cs.set i y) (some ⟨g, 0, none⟩) c2 := by
  have h6 := h.later hb
  have hg := (h6.own.lt g rfl).1
  have hput := frc_putQ h6.own hi y
  refine ⟨by simp only [World.size_setCell]; exact h6.size, (h6.below.setCell (p := ⟨g, i * 2, none⟩) (by show W0.heap.size ≤ g; omega) _).setCell (p := ⟨g, i * 2 + 1, none⟩) (by show W0.heap.size ≤ g; omega) _, ?_, ?_⟩
  · rw [List.length_set]
    exact (h6.blk.far (by show W0.heap.size ≠ g; omega) _).far (by show W0.heap.size ≠ g; omega) _
  · rw [List.length_set]
    exact hput
theorem RSt.form {W0 wr : World} {a : Int} {cs : List Frc} {A2 : Option Addr} {c2 : Nat} (h : RSt W0 wr a cs A2 c2) (hn : 0 < cs.length) : ∃ g, A2 = some ⟨g, 0, none⟩ ∧ W0.heap.size + 1 ≤ g ∧ g < wr.heap.size := by
  obtain ⟨g, cap, hv, hgb, hglt⟩ := h.own.form hn
  simp only [Value.slice.injEq, true_and] at hv
  exact ⟨g, hv.1, hgb, hglt⟩
/-- The first i cells divided. -/
def divV (cs : List Frc) (x : Frc) (i : Nat) : List Frc := (cs.take i).map (fun f => divF f x) ++ cs.drop i
theorem divV_len (cs : List Frc) (x : Frc) {i : Nat} (hi : i ≤ cs.length) : (divV cs x i).length = cs.length := by simp [divV]; omega
theorem divV_get {cs : List Frc} {x : Frc} {i : Nat} (hi : i < cs.length) : (divV cs x i)[i]'(by rw [divV_len _ _ (by omega)]; exact hi) = cs[i] := by
  unfold divV
  rw [List.getElem_append_right (by simp; omega)]
  simp [Nat.min_eq_left (Nat.le_of_lt hi)]
theorem divV_set {cs : List Frc} {x : Frc} {i : Nat} (hi : i < cs.length) : (divV cs x i).set i (divF cs[i] x) = divV cs x (i + 1) := by
  unfold divV
  rw [List.drop_eq_getElem_cons hi, List.set_append_right _ _ (by simp; omega), List.length_map, List.length_take, Nat.min_eq_left (Nat.le_of_lt hi), Nat.sub_self, List.set_cons_zero, List.take_succ_eq_append_getElem hi, List.map_append, List.append_assoc]
  rfl
theorem divV_zero (cs : List Frc) (x : Frc) : divV cs x 0 = cs := by simp [divV]
theorem divV_all (cs : List Frc) (x : Frc) : divV cs x cs.length = divL cs x := by simp [divV, divL]
theorem some_n {x : Frc} (h : FrcOk x) : someF x = (x.n != 0) := by
  rw [someF_ok h]
  by_cases h0 : x.n = 0
  · rw [(val_zero h).2 h0, h0]; simp
  · have : ¬ val x = 0 := fun e => h0 ((val_zero h).1 e)
    rw [decide_eq_true this]
    symm
    simpa using h0
theorem row_ok {S m : Nat} {e : Eqn} (h : EqOk S m e) : ∀ x ∈ rowL e, FrcOk x := fun x hx => by
  unfold rowL at hx
  rw [List.mem_append] at hx
  rcases hx with hx | hx
  · exact h.fo x hx
  · exact h.po x hx
theorem lead_row {e : Eqn} {c0 : Nat} (hf : fndF e.fs 0 = some c0) : rowL (leadE e).e = divL (rowL e) (e.fs.getD c0 default) ∧ (leadE e).at_ = c0 := by
  unfold leadE
  rw [hf]
  exact ⟨(row_div e _).symm, rfl⟩
theorem leadB_row {e : Eqn} {c0 : Nat} (hf : fndF e.fs 0 = some c0) (hb : leadB e = true) : (∀ y ∈ rowL e, bdF y = true) ∧ bdF (e.fs.getD c0 default) = true ∧ (e.fs.getD c0 default).n ≠ 0 := by
  unfold leadB at hb
  rw [hf] at hb
  simp only [Bool.and_eq_true, Option.getD_some] at hb
  have h1 := hb.1.2
  have h2 := hb.2
  unfold divB at h1 h2
  simp only [Bool.and_eq_true, List.all_eq_true, decide_eq_true_eq] at h1 h2
  refine ⟨fun y hy => ?_, h1.1.2, h1.2⟩
  unfold rowL at hy
  rw [List.mem_append] at hy
  rcases hy with hy | hy
  · exact h1.1.1 y hy
  · exact h2.1.1 y hy
theorem fnd_lt {l : List Frc} {k c : Nat} (h : fndF l k = some c) : c < l.length := by
  unfold fndF at h
  rw [List.find?_range_eq_some] at h
  exact List.mem_range.1 h.2.1
end Go.Proofs.YtbkekdbabkncfaaGreat
