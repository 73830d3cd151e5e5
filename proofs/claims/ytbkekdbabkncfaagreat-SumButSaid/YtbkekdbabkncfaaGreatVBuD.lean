/- Tables of numbers that rise, and three questions: what the program answers. -/
import Derived.Test.YtbkekdbabkncfaaGreatVBuX
import Derived.Test.YtbkekdbabkncfaaGreatW7

namespace Go.Proofs.YtbkekdbabkncfaaGreat
open Go.RowKit Go.Maps

/-- The table of a list of values. -/
def butL (f : Nat → Int) (n : Nat) : List Sub := (List.range n).map fun (i : Nat) => ⟨7 * (i : Int), [(i : Int), f i]⟩
theorem butL_succ (f : Nat → Int) (n : Nat) : butL f (n + 1) = butL f n ++ [⟨7 * (n : Int), [(n : Int), f n]⟩] := by
  unfold butL
  rw [List.range_succ, List.map_append]; rfl
theorem butL_len (f : Nat → Int) (n : Nat) : (butL f n).length = n := by unfold butL; simp
theorem but_ids (f : Nat → Int) (n : Nat) : (butL f n).map Sub.id = idsB n := by unfold butL idsB; rw [List.map_map]; rfl
theorem idsB_incr (n : Nat) : (idsB n).Pairwise (· < ·) := by
  unfold idsB
  rw [List.pairwise_map]
  exact List.Pairwise.imp (fun h => by omega) List.pairwise_lt_range
theorem srt_but {f : Nat → Int} {n : Nat} {l ol : List SubD} (h : SrtOf l ol) (hl : l.map SubD.v = butL f n) : ol.map SubD.v = butL f n := by
  have hp : (ol.map SubD.v).Perm (butL f n) := by rw [← hl]; exact h.1.map _
  have h1 : (ol.map SubD.v).Pairwise (fun x y => x.id ≤ y.id) := List.pairwise_map.2 h.2
  have h0 : (butL f n).Pairwise (fun x y => x.id < y.id) := List.pairwise_map.1 (by rw [but_ids]; exact idsB_incr n)
  refine List.Perm.eq_of_pairwise (fun a b ha hb h3 h4 => ?_) h1 (h0.imp (fun h => Int.le_of_lt h)) hp
  have ha2 := hp.mem_iff.1 ha
  unfold butL at ha2 hb
  rw [List.mem_map] at ha2 hb
  obtain ⟨i, _, rfl⟩ := ha2
  obtain ⟨j, _, rfl⟩ := hb
  simp only at h3 h4
  have : i = j := by omega
  rw [this]
/-- Only who is asked for matters. -/
theorem eqnL_asks (ol ol' : List SubD) (hl : ol.length = ol'.length) (m : Nat) : ∀ (qs qs' : List Que) (k : Nat), qs.map (fun q => askL q ol) = qs'.map (fun q => askL q ol') → eqnL ol m k qs = eqnL ol' m k qs'
  | [], [], _, _ => rfl
  | [], _ :: _, _, h => by simp at h
  | _ :: _, [], _, h => by simp at h
  | q :: r, q' :: r', k, h => by
    simp only [List.map_cons, List.cons.injEq] at h
    simp only [eqnL]
    rw [h.1, eqnL_asks ol ol' hl m r r' (k + 1) h.2, hl]
def col0 (w : List Whe) : Prop := ∀ x ∈ w, x.col = 0
theorem ask_but {f : Nat → Int} {n : Nat} {ol : List SubD} (h : ol.map SubD.v = butL f n) {q q' : Que} (hq : q.wheres = q'.wheres) (hc : col0 q.wheres) : askL q ol = askL q' ((butT n).map plS) := by
  have h1 : ∀ (g : Nat → Int) (L : List SubD), L.map SubD.v = butL g n → ∀ q : Que, col0 q.wheres → askL q L = (List.range n).map fun (i : Nat) => q.wheres.all fun x => inN (i : Int) x.lo x.hi := fun g L hL q hc => by
    have e : askL q L = (L.map SubD.v).map fun s => askB s q := by unfold askL; rw [List.map_map]; rfl
    rw [e, hL]
    unfold butL
    rw [List.map_map]
    refine List.map_congr_left fun i _ => ?_
    simp only [Function.comp, askB]
    rw [Bool.eq_iff_iff, List.all_eq_true, List.all_eq_true]
    constructor
    · intro h x hx
      have := h x hx
      rw [hc x hx] at this
      simpa using this
    · intro h x hx
      rw [hc x hx]
      simpa using h x hx
  have h2 : ((butT n).map plS).map SubD.v = butL (fun _ => 0) n := by
    rw [List.map_map]
    exact (List.map_congr_left fun _ _ => rfl).trans (List.map_id _)
  rw [h1 f ol h q hc, h1 _ _ h2 q' (by rw [← hq]; exact hc), hq]
section
variable {f : Nat → Int} {n : Nat} {l : List SubD} {A : Option Addr} {c : Nat} {qs : List QueD} {qs' : List Que} {S : Option Addr} {sc : Nat} {w : World}
theorem asks_but (hc : ∀ q ∈ qs', col0 q.wheres) {ol : List SubD} (h : ol.map SubD.v = butL f n) (hq : qs.map (fun x => x.v.wheres) = qs'.map Que.wheres) : (qs.map QueD.v).map (fun q => askL q ol) = qs'.map (fun q => askL q ((butT n).map plS)) := by
  induction qs generalizing qs' with
  | nil =>
    cases qs' with
    | nil => rfl
    | cons _ _ => simp at hq
  | cons q r ih =>
    cases qs' with
    | nil => simp at hq
    | cons q' r' =>
      simp only [List.map_cons, List.cons.injEq] at hq ⊢
      exact ⟨ask_but h hq.1 (by rw [hq.1]; exact hc q' (by simp)), ih (fun q hm => hc q (by simp [hm])) hq.2⟩
theorem eqn_but (hc : ∀ q ∈ qs', col0 q.wheres) {ol : List SubD} (h : ol.map SubD.v = butL f n) (hq : qs.map (fun x => x.v.wheres) = qs'.map Que.wheres) : eqnL ol qs.length 0 (qs.map QueD.v) = eqB n qs' := by
  have hlq : qs.length = qs'.length := by have := congrArg List.length hq; simpa using this
  have hlo : ol.length = ((butT n).map plS).length := by
    have := congrArg List.length h
    rw [butL_len] at this
    simp [butT]; simpa using this
  unfold eqB
  rw [hlq]
  exact eqnL_asks _ _ hlo _ _ _ _ (asks_but hc h hq)
theorem ol_len {ol : List SubD} (h : ol.map SubD.v = butL f n) : ol.length = n := by
  have := congrArg List.length h
  rw [butL_len] at this; simpa using this
theorem ids_but {ol : List SubD} (h : ol.map SubD.v = butL f n) : idsR ol = idsB n := by
  have := congrArg (List.map Sub.id) h
  rw [List.map_map, but_ids] at this
  exact this
theorem tab_but (hn : n ≤ 16) (hf : ∀ i, i < n → 0 ≤ f i ∧ f i ≤ 65535) : tabB 2 (butL f n) = true := by
  unfold tabB
  simp only [Bool.and_eq_true, decide_eq_true_eq, List.all_eq_true]
  refine ⟨⟨⟨by decide, by rw [butL_len]; exact hn⟩, fun s hs => ?_⟩, by rw [but_ids]; exact (idsB_incr n).imp (fun h => by omega)⟩
  unfold butL at hs
  rw [List.mem_map] at hs
  obtain ⟨i, hi, rfl⟩ := hs
  rw [List.mem_range] at hi
  have h1 := hf i hi
  unfold subB
  simp only [Bool.and_eq_true, decide_eq_true_eq, List.all_eq_true, inN_iff]
  refine ⟨⟨by omega, by simp⟩, fun v hv => ?_⟩
  simp only [List.mem_cons, List.not_mem_nil, or_false] at hv
  rcases hv with rfl | rfl <;> omega
/-- What is put to the program: the table, the audit, and its answers by the case. -/
structure PutB (f : Nat → Int) (n : Nat) (l : List SubD) (A : Option Addr) (qs : List QueD) (S : Option Addr) (qs' : List Que) (w : World) : Prop where
  n16 : n ≤ 16
  fv : ∀ i, i < n → 0 ≤ f i ∧ f i ≤ 65535
  tab : l.map SubD.v = butL f n
  subs : SubsAt w w.heap.size A l
  ques : QuesAt w w.heap.size S qs
  whs : qs.map (fun x => x.v.wheres) = qs'.map Que.wheres
  c0 : ∀ q ∈ qs', col0 q.wheres
  av : avlB 2 qs = true
  wl : ∀ x ∈ qs, x.v.wheres.length ≤ maxLen
  ok : okB n qs' = true
theorem PutB.later {w' : World} (h : PutB f n l A qs S qs' w) (hb : Below w.heap.size w w') : PutB f n l A qs S qs' w' := ⟨h.n16, h.fv, h.tab, h.subs.later hb, h.ques.later hb, h.whs, h.c0, h.av, h.wl, h.ok⟩
theorem PutB.small (h : PutB f n l A qs S qs' w) : l.length = n ∧ (∀ x ∈ l, x.v.vals.length ≤ maxLen) ∧ qs.length ≤ 8 := by
  refine ⟨ol_len h.tab, fun x hx => ?_, (avl_parts h.av).1⟩
  have h2 : x.v ∈ butL f n := by rw [← h.tab]; exact List.mem_map_of_mem hx
  unfold butL at h2
  rw [List.mem_map] at h2
  obtain ⟨i, _, e⟩ := h2
  rw [← e]; unfold maxLen; simp
theorem PutB.audit (h : PutB f n l A qs S qs' w) (W : World) (hb : Below w.heap.size w W) :
    Calls Tryz.prog 44 #[.int .i64 2, .slice A l.length c, .slice S qs.length sc] W (AudU W 2 l qs) :=
  (callsIn_wide (n := 9)).1 (openAudit_good 2 l A c qs S sc W (h.subs.later hb) h.small.2.1 by_all (by rw [h.tab]; exact tab_but h.n16 h.fv) (h.ques.later hb) h.wl h.av fun ol hp hs => by
    rw [eqn_but h.c0 (srt_but ⟨hp, hs⟩ h.tab) h.whs]
    have := h.ok
    unfold okB at this
    rw [Bool.and_eq_true] at this
    exact this.1)
theorem PutB.led (h : PutB f n l A qs S qs' w) {ol : List SubD} (ho : SrtOf l ol) : ledR ol qs = ledB n qs' := by
  unfold ledR ledB
  rw [eqn_but h.c0 (srt_but ho h.tab) h.whs]
theorem PutB.at (h : PutB f n l A qs S qs' w) {ol : List SubD} (ho : SrtOf l ol) : ∀ x ∈ ledR ol qs, x.at_ < ol.length := fun x hx => by
  rw [h.led ho] at hx
  have h1 := h.ok
  unfold okB at h1
  rw [Bool.and_eq_true, List.all_eq_true] at h1
  have h2 := h1.2 x hx
  rw [ol_len (srt_but ho h.tab)]
  simpa using h2
theorem PutB.about (id : Int) (h : PutB f n l A qs S qs' w) (W : World) (hb : Below w.heap.size w W) :
    Calls Tryz.prog 42 #[.int .i64 2, .slice A l.length c, .slice S qs.length sc, .int .i64 id] W (AboU W l qs id) :=
  openAbout_ok 2 l A c qs S sc id W fun W2 hb2 => h.audit W2 (hb.trans (hb2.mono hb.size))
theorem PutB.deduced {r : List Int} (h : PutB f n l A qs S qs' w) (hr : dedL (idsB n) (ledB n qs') = r) (hs : srtI r = r) :
    Calls Tryz.prog 19 #[.int .i64 2, .slice A l.length c, .slice S qs.length sc] w fun e w' => ∃ A' c', e = .returned (.tuple #[.slice A' r.length c', .int .i64 0]) ∧ Hid (IntsAt w' w'.heap.size A' r) ∧ Below w.heap.size w w' := by
  refine (deduced_ok 2 l A c qs S sc w h.small.2.2 (fun ol ho => h.at ho) (fun W hb => h.audit W hb)).mono ?_
  rintro e w' ⟨ol, A', c', ho, rfl, hfl, hb⟩
  have hR : dedR ol qs = r := by unfold dedR; rw [ids_but (srt_but ho.out h.tab), h.led ho.out, hr, hs]
  rw [hR] at hfl ⊢
  exact ⟨A', c', rfl, Lib.hid hfl.flat, hb⟩
theorem PutB.how {id : Int} {a : Nat} {k : Int} {r : List Int} (h : PutB f n l A qs S qs' w) (ha : fndI (idsB n) id = some a) (hb' : howB (ledB n qs') a = true) (hr : (howE (ledB n qs') a).map (fun x => (clrL 1 x.e.ps, mltL (clrL 1 x.e.ps) x.e.ps)) = some (k, r)) :
    Calls Tryz.prog 16 #[.int .i64 2, .slice A l.length c, .slice S qs.length sc, .int .i64 id] w fun e w' => ∃ A' c', e = .returned (.tuple #[.slice A' r.length c', .int .i64 k, .int .i64 0]) ∧ Hid (IntsAt w' w'.heap.size A' r) ∧ Below w.heap.size w w' := by
  refine (how_ok 2 l A c qs S sc id w h.small.2.2 (by rw [h.small.1]; have := h.n16; omega) (fun ol ho => ⟨h.at ho, fun a' ha' => ?_⟩) (fun W hb => h.about id W hb)).mono ?_
  · rw [ids_but (srt_but ho h.tab), ha] at ha'
    cases ha'
    rw [h.led ho]; exact hb'
  · rintro e w' ⟨ol, ho, hb, h1⟩
    have hR : howR ol qs id = howE (ledB n qs') a := by unfold howR; rw [ids_but (srt_but ho.out h.tab), ha, h.led ho.out]; rfl
    rw [← hR] at hr
    rcases h1 with ⟨h2, _⟩ | ⟨x, A', c', h2, rfl, hfl⟩
    · rw [h2] at hr; cases hr
    · rw [h2] at hr
      simp only [Option.map_some, Option.some.injEq, Prod.mk.injEq] at hr
      rw [hr.1] at hfl ⊢
      have h9 := hr.2
      rw [hr.1] at h9
      rw [h9] at hfl ⊢
      exact ⟨A', c', rfl, Lib.hid hfl.flat, hb⟩
theorem PutB.hide {id : Int} {a : Nat} (h : PutB f n l A qs S qs' w) (ha : fndI (idsB n) id = some a) (hb' : hideB (ledB n qs') n a = true) (hr : (hidF (ledB n qs') a).isSome = true) :
    Calls Tryz.prog 20 #[.int .i64 2, .slice A l.length c, .slice S qs.length sc, .int .i64 id] w fun e w' => ∃ A' m' c', e = .returned (.tuple #[.slice A' m' c', .int .i64 0]) ∧ Below w.heap.size w w' := by
  refine (hide_ok 2 l A c qs S sc id w h.small.2.2 (by rw [h.small.1]; have := h.n16; omega) (fun ol ho => ⟨h.at ho, fun a' ha' => ?_⟩) (fun W hb => h.about id W hb)).mono ?_
  · rw [ids_but (srt_but ho h.tab), ha] at ha'
    cases ha'
    rw [h.led ho, ol_len (srt_but ho h.tab)]; exact hb'
  · rintro e w' ⟨ol, ho, hb, h1⟩
    have hR : hidR ol qs id = (hidF (ledB n qs') a).map fun k => hidV (moreL (ledB n qs') n k) a := by unfold hidR; rw [ids_but (srt_but ho.out h.tab), ha, h.led ho.out, ol_len (srt_but ho.out h.tab)]; rfl
    rcases h1 with ⟨h2, _⟩ | ⟨x, A', c', h2, rfl, hfl⟩
    · rw [hR] at h2
      cases e : hidF (ledB n qs') a with
      | none => rw [e] at hr; cases hr
      | some k => rw [e] at h2; cases h2
    · exact ⟨A', _, c', rfl, hb⟩
end
end Go.Proofs.YtbkekdbabkncfaaGreat
