/- The audit at the data of the examples. -/
import Derived.Test.YtbkekdbabkncfaaGreatVDH
import Derived.Test.YtbkekdbabkncfaaGreatUPrg11

namespace Go.Proofs.YtbkekdbabkncfaaGreat
open Go.RowKit Go.Maps

def exT : List Sub := [⟨1, [30, 500]⟩, ⟨2, [41, 700]⟩, ⟨3, [52, 900]⟩]
def agQ (lo hi : Int) : Que := ⟨[⟨0, lo, hi⟩], 1, 800, 100⟩
def exQ2 : List Que := [agQ 30 45, agQ 40 60]
def exQ3 : List Que := [agQ 30 45, agQ 40 60, agQ 30 60]
def plS (x : Sub) : SubD := ⟨x, none, 0⟩
theorem askL_pl {ol : List SubD} {vs : List Sub} (h : ol.map SubD.v = vs) (q : Que) : askL q ol = askL q (vs.map plS) := by
  subst h
  unfold askL
  rw [List.map_map, List.map_map]
  rfl
theorem eqnL_pl {ol : List SubD} {vs : List Sub} (h : ol.map SubD.v = vs) (m : Nat) : ∀ (qs : List Que) (k : Nat), eqnL ol m k qs = eqnL (vs.map plS) m k qs
  | [], _ => rfl
  | q :: r, k => by
    have hl : ol.length = (vs.map plS).length := by rw [← h]; simp
    simp only [eqnL]
    rw [askL_pl h q, eqnL_pl h m r (k + 1), hl]
def ledX (qs : List Que) : List Led := solL [] (eqnL (exT.map plS) qs.length 0 qs)
theorem srt_ex {l ol : List SubD} (h : SrtOf l ol) (hl : l.map SubD.v = exT) : ol.map SubD.v = exT := by
  have hp : (ol.map SubD.v).Perm exT := by rw [← hl]; exact h.1.map _
  have h1 : (ol.map SubD.v).Pairwise (fun x y => x.id ≤ y.id) := List.pairwise_map.2 h.2
  have h2 : exT.Pairwise (fun x y => x.id ≤ y.id) := by decide
  refine List.Perm.eq_of_pairwise (fun a b ha hb h3 h4 => ?_) h1 h2 hp
  have ha2 := hp.mem_iff.1 ha
  simp only [exT, List.mem_cons, List.not_mem_nil, or_false] at ha2 hb
  rcases ha2 with rfl | rfl | rfl <;> rcases hb with rfl | rfl | rfl <;> first | rfl | (simp at h3 h4)
theorem led_ex {l ol : List SubD} {qs : List QueD} (h : SrtOf l ol) (hl : l.map SubD.v = exT) : ledR ol qs = ledX (qs.map QueD.v) := by
  unfold ledR ledX
  rw [eqnL_pl (srt_ex h hl), List.length_map]
theorem ids_ex {l ol : List SubD} (h : SrtOf l ol) (hl : l.map SubD.v = exT) : idsR ol = [1, 2, 3] := by
  have := congrArg (List.map Sub.id) (srt_ex h hl)
  rw [List.map_map] at this
  exact this
theorem solB_ex {l ol : List SubD} {qs : List QueD} (h : SrtOf l ol) (hl : l.map SubD.v = exT) (hb : solB [] (eqnL (exT.map plS) (qs.map QueD.v).length 0 (qs.map QueD.v)) = true) : solB [] (eqnL ol qs.length 0 (qs.map QueD.v)) = true := by
  rw [eqnL_pl (srt_ex h hl)]
  rw [List.length_map] at hb
  exact hb
theorem sol2 : solB [] (eqnL (exT.map plS) exQ2.length 0 exQ2) = true := by decide +kernel
theorem sol3 : solB [] (eqnL (exT.map plS) exQ3.length 0 exQ3) = true := by decide +kernel
theorem at2 : (ledX exQ2).all (fun x => decide (x.at_ < 3)) = true := by decide +kernel
theorem at3 : (ledX exQ3).all (fun x => decide (x.at_ < 3)) = true := by decide +kernel
theorem ded2 : dedL [1, 2, 3] (ledX exQ2) = [] := by decide +kernel
theorem ded3 : dedL [1, 2, 3] (ledX exQ3) = [1, 2, 3] := by decide +kernel
theorem hwB2 : (List.range 3).all (fun a => howB (ledX exQ2) a && hideB (ledX exQ2) 3 a) = true := by decide +kernel
theorem hwB3 : (List.range 3).all (fun a => howB (ledX exQ3) a && hideB (ledX exQ3) 3 a) = true := by decide +kernel
theorem how31 : (howE (ledX exQ3) 0).map (fun x => (clrL 1 x.e.ps, mltL (clrL 1 x.e.ps) x.e.ps)) = some (1, [0, -1, 1]) := by decide +kernel
theorem how32 : (howE (ledX exQ3) 1).map (fun x => (clrL 1 x.e.ps, mltL (clrL 1 x.e.ps) x.e.ps)) = some (1, [1, 1, -1]) := by decide +kernel
theorem how21 : (howE (ledX exQ2) 0).isNone = true := by decide +kernel
theorem hid21 : ((hidF (ledX exQ2) 0).map fun k => hidV (moreL (ledX exQ2) 3 k) 0) = some [1, -1, 1] := by decide +kernel
theorem hid31 : ((hidF (ledX exQ3) 0).map fun k => hidV (moreL (ledX exQ3) 3 k) 0) = none := by decide +kernel
def avlV (columns : Int) (l : List Que) : Bool := decide (l.length ≤ 8) && l.all (fun x => fitB columns (l.headD ⟨[], 0, 0, 0⟩) x)
theorem avl_v (columns : Int) (qs : List QueD) : avlB columns qs = avlV columns (qs.map QueD.v) := by
  cases qs with
  | nil => rfl
  | cons a r =>
    unfold avlB avlV
    rw [List.length_map, List.all_map]
    rfl
theorem avl2 : avlV 2 exQ2 = true := by decide +kernel
theorem avl3 : avlV 2 exQ3 = true := by decide +kernel
theorem avlO : avlV 2 [agQ 30 45, ⟨[⟨0, 30, 45⟩], 1, 700, 100⟩] = false := by decide +kernel
theorem tab_ex : tabB 2 exT = true := by decide +kernel
theorem met_ex : metV 2 exT (agQ 30 45) = [1, 2] ∧ askE 2 exT (agQ 30 45) = 0 := by decide +kernel
theorem sum_ex : sumP 2 exT (agQ 40 60) = 1500 ∧ sumB 2 exT (agQ 40 60) = 800 ∧ askE 2 exT (agQ 40 60) = 0 := by decide +kernel
end Go.Proofs.YtbkekdbabkncfaaGreat

namespace Go.Proofs.YtbkekdbabkncfaaGreat
open Go.RowKit Go.Maps

set_option maxRecDepth 100000 in
set_option maxHeartbeats 4000000 in
theorem table_any (w : World) : Calls Tryz.prog 15 #[] w fun e w' => ∃ A c, ∃ l : List SubD, e = .returned (.slice A l.length c) ∧ Hid (l.map SubD.v = exT ∧ SubsAt w' w'.heap.size A l) ∧ Below w.heap.size w w' := by
  go_enter Tryz.func15, Tryz.ntmps15
  go_wp2
  have B4 := ((((Below.refl w.heap.size w).alloc (Nat.le_refl _) (.cells #[.int .i64 30, .int .i64 500] 3)).alloc (by simp) (.cells #[.int .i64 41, .int .i64 700] 3)).alloc (by simp; omega) (.cells #[.int .i64 52, .int .i64 900] 3)).alloc (by simp; omega) (.cells #[.int .i64 1, .slice (some ⟨w.heap.size, 0, none⟩) 2 2, .int .i64 2, .slice (some ⟨w.heap.size + 1, 0, none⟩) 2 2, .int .i64 3, .slice (some ⟨w.heap.size + 1 + 1, 0, none⟩) 2 2] 56)
  have k0 := (((Blk.new w #[.int .i64 30, .int .i64 500] 3).alloc (.cells #[.int .i64 41, .int .i64 700] 3)).alloc (.cells #[.int .i64 52, .int .i64 900] 3)).alloc (.cells #[.int .i64 1, .slice (some ⟨w.heap.size, 0, none⟩) 2 2, .int .i64 2, .slice (some ⟨w.heap.size + 1, 0, none⟩) 2 2, .int .i64 3, .slice (some ⟨w.heap.size + 1 + 1, 0, none⟩) 2 2] 56)
  have k1 := ((newAt' (w.alloc (.cells #[.int .i64 30, .int .i64 500] 3)) #[.int .i64 41, .int .i64 700] 3 (g := w.heap.size + 1) (by simp)).alloc (.cells #[.int .i64 52, .int .i64 900] 3)).alloc (.cells #[.int .i64 1, .slice (some ⟨w.heap.size, 0, none⟩) 2 2, .int .i64 2, .slice (some ⟨w.heap.size + 1, 0, none⟩) 2 2, .int .i64 3, .slice (some ⟨w.heap.size + 1 + 1, 0, none⟩) 2 2] 56)
  have k2 := (newAt' ((w.alloc (.cells #[.int .i64 30, .int .i64 500] 3)).alloc (.cells #[.int .i64 41, .int .i64 700] 3)) #[.int .i64 52, .int .i64 900] 3 (g := w.heap.size + 1 + 1) (by simp)).alloc (.cells #[.int .i64 1, .slice (some ⟨w.heap.size, 0, none⟩) 2 2, .int .i64 2, .slice (some ⟨w.heap.size + 1, 0, none⟩) 2 2, .int .i64 3, .slice (some ⟨w.heap.size + 1 + 1, 0, none⟩) 2 2] 56)
  have k3 := newAt' (((w.alloc (.cells #[.int .i64 30, .int .i64 500] 3)).alloc (.cells #[.int .i64 41, .int .i64 700] 3)).alloc (.cells #[.int .i64 52, .int .i64 900] 3)) #[.int .i64 1, .slice (some ⟨w.heap.size, 0, none⟩) 2 2, .int .i64 2, .slice (some ⟨w.heap.size + 1, 0, none⟩) 2 2, .int .i64 3, .slice (some ⟨w.heap.size + 1 + 1, 0, none⟩) 2 2] 56 (g := w.heap.size + 1 + 1 + 1) (by simp)
  refine bodyPost_ret (v := .slice (some ⟨w.heap.size + 1 + 1 + 1, 0, none⟩) 3 3) (by simp [results, Tryz.results15, go_sem]) rfl ⟨_, 3, [⟨⟨1, [30, 500]⟩, some ⟨w.heap.size, 0, none⟩, 2⟩, ⟨⟨2, [41, 700]⟩, some ⟨w.heap.size + 1, 0, none⟩, 2⟩, ⟨⟨3, [52, 900]⟩, some ⟨w.heap.size + 1 + 1, 0, none⟩, 2⟩], rfl, Lib.hid ⟨rfl, ?_, ?_⟩, B4⟩
  · intro k hk
    have h3 : k = 0 ∨ k = 1 ∨ k = 2 := by simp only [List.length_cons, List.length_nil] at hk; omega
    rcases h3 with rfl | rfl | rfl
    all_goals
      refine ⟨_, 0, rfl, k3.lt, fun i hi => ?_⟩
      rw [k3.cell]
      have h2 : i = 0 ∨ i = 1 := by omega
      rcases h2 with rfl | rfl <;> rfl
  · intro x hx k hk
    simp only [List.mem_cons, List.not_mem_nil, or_false] at hx
    rcases hx with rfl | rfl | rfl
    all_goals
      have h3 : k = 0 ∨ k = 1 := by simp only [List.length_cons, List.length_nil] at hk; omega
    · rcases h3 with rfl | rfl
      all_goals
        refine ⟨_, 0, rfl, k0.lt, fun i hi => ?_⟩
        rw [k0.cell]
        obtain rfl : i = 0 := by omega
        rfl
    · rcases h3 with rfl | rfl
      all_goals
        refine ⟨_, 0, rfl, k1.lt, fun i hi => ?_⟩
        rw [k1.cell]
        obtain rfl : i = 0 := by omega
        rfl
    · rcases h3 with rfl | rfl
      all_goals
        refine ⟨_, 0, rfl, k2.lt, fun i hi => ?_⟩
        rw [k2.cell]
        obtain rfl : i = 0 := by omega
        rfl
set_option maxRecDepth 100000 in
set_option maxHeartbeats 4000000 in
theorem aged_any (lo hi : Int) (w : World) : Calls Tryz.prog 13 #[.int .i64 lo, .int .i64 hi] w fun e w' => ∃ W c, e = .returned (.agg #[.slice W 1 c, .int .i64 1, .int .i64 800, .int .i64 100]) ∧ Hid (WhesAt w' w'.heap.size W [⟨0, lo, hi⟩]) ∧ Below w.heap.size w w' := by
  have B2 := ((Below.refl w.heap.size w).alloc (Nat.le_refl _) (.cells #[.slice (some ⟨w.heap.size + 1, 0, none⟩) 1 1, .int .i64 1, .int .i64 800, .int .i64 100] 25)).alloc (by simp) (.cells #[.int .i64 0, .int .i64 lo, .int .i64 hi] 68)
  have k1 := ((Blk.new w #[.slice (some ⟨w.heap.size + 1, 0, none⟩) 1 1, .int .i64 1, .int .i64 800, .int .i64 100] 25).alloc (.cells #[.int .i64 0, .int .i64 lo, .int .i64 hi] 68)).cell
  have k2 := newAt' (w.alloc (.cells #[.slice (some ⟨w.heap.size + 1, 0, none⟩) 1 1, .int .i64 1, .int .i64 800, .int .i64 100] 25)) #[.int .i64 0, .int .i64 lo, .int .i64 hi] 68 (g := w.heap.size + 1) (by simp)
  go_enter Tryz.func13, Tryz.ntmps13
  go_wp2
  refine bodyPost_ret (v := .agg #[.slice (some ⟨w.heap.size + 1, 0, none⟩) 1 1, .int .i64 1, .int .i64 800, .int .i64 100]) (by simp [results, Tryz.results13, go_sem, k1]) rfl ⟨_, _, rfl, Lib.hid ?_, B2⟩
  intro k hk
  obtain rfl : k = 0 := by simpa using hk
  refine ⟨_, 0, rfl, k2.lt, fun i hi => ?_⟩
  rw [k2.cell]
  have h2 : i = 0 ∨ i = 1 ∨ i = 2 := by omega
  rcases h2 with rfl | rfl | rfl <;> rfl
set_option maxRecDepth 100000 in
set_option maxHeartbeats 4000000 in
theorem questions_any (w : World) : Calls Tryz.prog 17 #[] w fun e w' => ∃ b, ∃ l : List QueD, e = .returned (.slice (some ⟨b, 0, none⟩) 3 3) ∧ Hid (l.map QueD.v = exQ3 ∧ QuesAt w' w'.heap.size (some ⟨b, 0, none⟩) l) ∧ Below w.heap.size w w' := by
  have HA := Lib.hid (fun lo hi W => aged_any lo hi W)
  go_enter Tryz.func17, Tryz.ntmps17
  go_wp2_with (go_at_call 13; (with_reducible refine (HA.out _ _ _).mono ?_); rintro e w1 ⟨W1, c1, rfl, f1, h1⟩)
  rename_i wa Wa ca fa ha wb Wb cb fb hb
  have bB := (Below.refl w1.heap.size w1).alloc (Nat.le_refl _) (.cells #[.slice Wa 1 ca, .int .i64 1, .int .i64 800, .int .i64 100, .slice Wb 1 cb, .int .i64 1, .int .i64 800, .int .i64 100, .slice W1 1 c1, .int .i64 1, .int .i64 800, .int .i64 100] 25)
  have k3 := Blk.new w1 #[.slice Wa 1 ca, .int .i64 1, .int .i64 800, .int .i64 100, .slice Wb 1 cb, .int .i64 1, .int .i64 800, .int .i64 100, .slice W1 1 c1, .int .i64 1, .int .i64 800, .int .i64 100] 25
  have hs := ha.size
  have hs2 := hb.size
  have hs3 := h1.size
  refine bodyPost_ret (v := .slice (some ⟨w1.heap.size, 0, none⟩) 3 3) (by simp [results, Tryz.results17, go_sem]) rfl ⟨_, [⟨agQ 30 45, Wa, ca⟩, ⟨agQ 40 60, Wb, cb⟩, ⟨agQ 30 60, W1, c1⟩], rfl, Lib.hid ⟨rfl, ?_, ?_⟩, ((ha.trans (hb.mono hs)).trans (h1.mono (by omega))).trans (bB.mono (by omega))⟩
  · intro k hk
    have h3 : k = 0 ∨ k = 1 ∨ k = 2 := by simp only [List.length_cons, List.length_nil] at hk; omega
    rcases h3 with rfl | rfl | rfl
    all_goals
      refine ⟨_, 0, rfl, k3.lt, fun i hi => ?_⟩
      rw [k3.cell]
      have h2 : i = 0 ∨ i = 1 ∨ i = 2 ∨ i = 3 := by omega
      rcases h2 with rfl | rfl | rfl | rfl <;> rfl
  · intro x hx
    simp only [List.mem_cons, List.not_mem_nil, or_false] at hx
    rcases hx with rfl | rfl | rfl
    · exact ((fa.out.later hb).later h1).later bB
    · exact (fb.out.later h1).later bB
    · exact f1.out.later bB
end Go.Proofs.YtbkekdbabkncfaaGreat

namespace Go.Proofs.YtbkekdbabkncfaaGreat
open Go.RowKit Go.Maps

theorem ex_ids : (exT.map fun x => x.vals.length ≤ maxLen) = [2 ≤ maxLen, 2 ≤ maxLen, 2 ≤ maxLen] := rfl
theorem ex_small {l : List SubD} (hl : l.map SubD.v = exT) : l.length = 3 ∧ ∀ x ∈ l, x.v.vals.length ≤ maxLen := by
  refine ⟨by have := congrArg List.length hl; simpa [exT] using this, fun x hx => ?_⟩
  have h2 : x.v ∈ exT := by rw [← hl]; exact List.mem_map_of_mem hx
  simp only [exT, List.mem_cons, List.not_mem_nil, or_false] at h2
  rcases h2 with h | h | h <;> rw [h] <;> (unfold maxLen; simp)
theorem meets_x (l : List SubD) (A : Option Addr) (c : Nat) (W : Option Addr) (wc : Nat) (w : World) (hl : l.map SubD.v = exT) (h : SubsAt w w.heap.size A l) (hq : WhesAt w w.heap.size W [⟨0, 30, 45⟩]) :
    Calls Tryz.prog 21 #[.int .i64 2, .slice A l.length c, .agg #[.slice W 1 wc, .int .i64 1, .int .i64 800, .int .i64 100]] w fun e w' => ∃ A' c', e = .returned (.tuple #[.slice A' 2 c', .int .i64 0]) ∧ Hid (IntsAt w' w'.heap.size A' [1, 2]) ∧ Below w.heap.size w w' := by
  have hs := ex_small hl
  refine (meetsP_any 2 l A c [⟨0, 30, 45⟩] 1 800 100 W wc w h (by rw [hs.1]; decide) hs.2 hq (by decide)).mono ?_
  rw [hl]
  rintro e w' h1
  rw [show metV 2 exT ⟨[⟨0, 30, 45⟩], 1, 800, 100⟩ = [1, 2] from met_ex.1, show askE 2 exT ⟨[⟨0, 30, 45⟩], 1, 800, 100⟩ = 0 from met_ex.2] at h1
  obtain ⟨A', c', rfl, hf, hb⟩ := h1
  exact ⟨A', c', rfl, Lib.hid hf, hb⟩
theorem sum_x (l : List SubD) (A : Option Addr) (c : Nat) (W : Option Addr) (wc : Nat) (w : World) (hl : l.map SubD.v = exT) (h : SubsAt w w.heap.size A l) (hq : WhesAt w w.heap.size W [⟨0, 40, 60⟩]) :
    Calls Tryz.prog 14 #[.int .i64 2, .slice A l.length c, .agg #[.slice W 1 wc, .int .i64 1, .int .i64 800, .int .i64 100]] w fun e w' => e = .returned (.tuple #[.int .i64 1500, .int .i64 800, .int .i64 0]) ∧ Below w.heap.size w w' := by
  have hs := ex_small hl
  have h1 := sumP_any 2 l A c [⟨0, 40, 60⟩] 1 800 100 W wc w h (by rw [hs.1]; decide) hs.2 hq (by decide)
  rw [hl, show sumP 2 exT ⟨[⟨0, 40, 60⟩], 1, 800, 100⟩ = 1500 from sum_ex.1, show sumB 2 exT ⟨[⟨0, 40, 60⟩], 1, 800, 100⟩ = 800 from sum_ex.2.1, show askE 2 exT ⟨[⟨0, 40, 60⟩], 1, 800, 100⟩ = 0 from sum_ex.2.2] at h1
  exact h1
theorem QuesAt.take {w : World} {A : Option Addr} {l : List QueD} (h : QuesAt w w.heap.size A l) (n : Nat) : QuesAt w w.heap.size A (l.take n) := by
  refine ⟨fun k hk => ?_, fun x hx => h.each x (List.mem_of_mem_take hx)⟩
  rw [List.length_take] at hk
  have h2 := h.row k (by omega)
  rw [List.getElem_take]
  exact h2
/-- An audit that is valid, and with which one may reckon. -/
structure FitX (qv : List Que) : Prop where
  av : avlV 2 qv = true
  sb : solB [] (eqnL (exT.map plS) qv.length 0 qv) = true
  at_ : (ledX qv).all (fun x => decide (x.at_ < 3)) = true
  hw : (List.range 3).all (fun a => howB (ledX qv) a && hideB (ledX qv) 3 a) = true
  len : ∀ q ∈ qv, q.wheres.length ≤ maxLen
theorem one_where {qv : List Que} (h : qv.all (fun q => decide (q.wheres.length = 1)) = true) : ∀ q ∈ qv, q.wheres.length ≤ maxLen := fun q hq => by
  rw [List.all_eq_true] at h
  have := h q hq
  simp at this
  rw [this]; decide
theorem fit2 : FitX exQ2 := ⟨avl2, sol2, at2, hwB2, one_where (by decide +kernel)⟩
theorem fit3 : FitX exQ3 := ⟨avl3, sol3, at3, hwB3, one_where (by decide +kernel)⟩
theorem srt1 : srtI [] = [] ∧ srtI [1, 2, 3] = [1, 2, 3] := ⟨List.mergeSort_of_pairwise List.Pairwise.nil, List.mergeSort_of_pairwise (by decide)⟩
section
variable {l : List SubD} {A : Option Addr} {c : Nat} {qs : List QueD} {S : Option Addr} {sc : Nat} {w : World}
theorem openAudit_x (hl : l.map SubD.v = exT) (h : SubsAt w w.heap.size A l) (hq : QuesAt w w.heap.size S qs) (hf : FitX (qs.map QueD.v)) (W : World) (hb : Below w.heap.size w W) :
    Calls Tryz.prog 44 #[.int .i64 2, .slice A l.length c, .slice S qs.length sc] W (AudU W 2 l qs) := by
  refine (callsIn_wide (n := 9)).1 (openAudit_good 2 l A c qs S sc W (h.later hb) (ex_small hl).2 by_all (by rw [hl]; exact tab_ex) (hq.later hb) (fun x hx => hf.len _ (List.mem_map_of_mem hx)) (by rw [avl_v]; exact hf.av) fun ol hp hs => solB_ex ⟨hp, hs⟩ hl hf.sb)
theorem qs8 (hf : FitX (qs.map QueD.v)) : qs.length ≤ 8 := by
  have := hf.av
  unfold avlV at this
  rw [Bool.and_eq_true, decide_eq_true_eq, List.length_map] at this
  exact this.1
theorem at_x (hl : l.map SubD.v = exT) (hf : FitX (qs.map QueD.v)) (ol : List SubD) (ho : SrtOf l ol) : ∀ x ∈ ledR ol qs, x.at_ < ol.length := fun x hx => by
  rw [led_ex ho hl] at hx
  have h1 := hf.at_
  rw [List.all_eq_true] at h1
  have h2 := h1 x hx
  have h3 : ol.length = 3 := by rw [ho.1.length_eq]; exact (ex_small hl).1
  simp at h2
  omega
theorem find_lt (hl : l.map SubD.v = exT) {id : Int} {ol : List SubD} (ho : SrtOf l ol) {a : Nat} (ha : fndI (idsR ol) id = some a) : a < 3 := by
  have h1 := fndI_lt ha
  rw [ids_ex ho hl] at h1
  exact h1
theorem fit_how (hl : l.map SubD.v = exT) (hf : FitX (qs.map QueD.v)) {id : Int} {ol : List SubD} (ho : SrtOf l ol) {a : Nat} (ha : fndI (idsR ol) id = some a) : howB (ledR ol qs) a = true ∧ hideB (ledR ol qs) ol.length a = true := by
  have h1 := hf.hw
  rw [List.all_eq_true] at h1
  have h2 := h1 a (List.mem_range.2 (find_lt hl ho ha))
  rw [Bool.and_eq_true] at h2
  have h3 : ol.length = 3 := by rw [ho.1.length_eq]; exact (ex_small hl).1
  rw [led_ex ho hl, h3]
  exact h2
theorem deduced_x {r : List Int} (hl : l.map SubD.v = exT) (h : SubsAt w w.heap.size A l) (hq : QuesAt w w.heap.size S qs) (hf : FitX (qs.map QueD.v)) (hr : srtI (dedL [1, 2, 3] (ledX (qs.map QueD.v))) = r) :
    Calls Tryz.prog 19 #[.int .i64 2, .slice A l.length c, .slice S qs.length sc] w fun e w' => ∃ A' c', e = .returned (.tuple #[.slice A' r.length c', .int .i64 0]) ∧ Hid (IntsAt w' w'.heap.size A' r) ∧ Below w.heap.size w w' := by
  refine (deduced_ok 2 l A c qs S sc w (qs8 hf) (fun ol ho => at_x hl hf ol ho) (fun W hb => openAudit_x hl h hq hf W hb)).mono ?_
  rintro e w' ⟨ol, A', c', ho, rfl, hfl, hb⟩
  have hR : dedR ol qs = r := by unfold dedR; rw [ids_ex ho.out hl, led_ex ho.out hl]; exact hr
  rw [hR] at hfl ⊢
  exact ⟨A', c', rfl, Lib.hid hfl.flat, hb⟩
theorem openAbout_x (id : Int) (hl : l.map SubD.v = exT) (h : SubsAt w w.heap.size A l) (hq : QuesAt w w.heap.size S qs) (hf : FitX (qs.map QueD.v)) (W : World) (hb : Below w.heap.size w W) :
    Calls Tryz.prog 42 #[.int .i64 2, .slice A l.length c, .slice S qs.length sc, .int .i64 id] W (AboU W l qs id) :=
  openAbout_ok 2 l A c qs S sc id W fun W2 hb2 => openAudit_x hl h hq hf W2 (hb.trans (hb2.mono hb.size))
theorem how_x (id : Int) {k : Int} {r : List Int} (hl : l.map SubD.v = exT) (h : SubsAt w w.heap.size A l) (hq : QuesAt w w.heap.size S qs) (hf : FitX (qs.map QueD.v)) (hr : ((fndI [1, 2, 3] id).bind (howE (ledX (qs.map QueD.v)))).map (fun x => (clrL 1 x.e.ps, mltL (clrL 1 x.e.ps) x.e.ps)) = some (k, r)) :
    Calls Tryz.prog 16 #[.int .i64 2, .slice A l.length c, .slice S qs.length sc, .int .i64 id] w fun e w' => ∃ A' c', e = .returned (.tuple #[.slice A' r.length c', .int .i64 k, .int .i64 0]) ∧ Hid (IntsAt w' w'.heap.size A' r) ∧ Below w.heap.size w w' := by
  refine (how_ok 2 l A c qs S sc id w (qs8 hf) (by rw [(ex_small hl).1]; decide) (fun ol ho => ⟨at_x hl hf ol ho, fun a ha => (fit_how hl hf ho ha).1⟩) (fun W hb => openAbout_x id hl h hq hf W hb)).mono ?_
  rintro e w' ⟨ol, ho, hb, h1⟩
  have hR : howR ol qs id = (fndI [1, 2, 3] id).bind (howE (ledX (qs.map QueD.v))) := by unfold howR; rw [ids_ex ho.out hl, led_ex ho.out hl]
  rw [← hR] at hr
  rcases h1 with ⟨h2, _⟩ | ⟨x, A', c', h2, rfl, hfl⟩
  · rw [h2] at hr; cases hr
  · rw [h2] at hr
    simp only [Option.map_some, Option.some.injEq, Prod.mk.injEq] at hr
    rw [hr.1] at hfl ⊢
    have h9 := hr.2
    rw [hr.1] at h9
    rw [h9] at hfl ⊢
    exact ⟨A', c', rfl, Lib.hid hfl.flat, hb⟩
theorem how_none (id : Int) (hl : l.map SubD.v = exT) (h : SubsAt w w.heap.size A l) (hq : QuesAt w w.heap.size S qs) (hf : FitX (qs.map QueD.v)) (hr : ((fndI [1, 2, 3] id).bind (howE (ledX (qs.map QueD.v)))).isNone = true) :
    Calls Tryz.prog 16 #[.int .i64 2, .slice A l.length c, .slice S qs.length sc, .int .i64 id] w fun e w' => e = .returned (.tuple #[.slice none 0 0, .int .i64 0, .int .i64 6]) ∧ Below w.heap.size w w' := by
  refine (how_ok 2 l A c qs S sc id w (qs8 hf) (by rw [(ex_small hl).1]; decide) (fun ol ho => ⟨at_x hl hf ol ho, fun a ha => (fit_how hl hf ho ha).1⟩) (fun W hb => openAbout_x id hl h hq hf W hb)).mono ?_
  rintro e w' ⟨ol, ho, hb, h1⟩
  have hR : howR ol qs id = (fndI [1, 2, 3] id).bind (howE (ledX (qs.map QueD.v))) := by unfold howR; rw [ids_ex ho.out hl, led_ex ho.out hl]
  rw [← hR] at hr
  rcases h1 with ⟨h2, rfl⟩ | ⟨x, A', c', h2, rfl, hfl⟩
  · exact ⟨rfl, hb⟩
  · rw [h2] at hr; cases hr
theorem hide_x (id : Int) {r : List Int} (hl : l.map SubD.v = exT) (h : SubsAt w w.heap.size A l) (hq : QuesAt w w.heap.size S qs) (hf : FitX (qs.map QueD.v)) (hr : ((fndI [1, 2, 3] id).bind fun a => (hidF (ledX (qs.map QueD.v)) a).map fun k => hidV (moreL (ledX (qs.map QueD.v)) 3 k) a) = some r) :
    Calls Tryz.prog 20 #[.int .i64 2, .slice A l.length c, .slice S qs.length sc, .int .i64 id] w fun e w' => ∃ A' c', e = .returned (.tuple #[.slice A' r.length c', .int .i64 0]) ∧ Hid (IntsAt w' w'.heap.size A' r) ∧ Below w.heap.size w w' := by
  refine (hide_ok 2 l A c qs S sc id w (qs8 hf) (by rw [(ex_small hl).1]; decide) (fun ol ho => ⟨at_x hl hf ol ho, fun a ha => (fit_how hl hf ho ha).2⟩) (fun W hb => openAbout_x id hl h hq hf W hb)).mono ?_
  rintro e w' ⟨ol, ho, hb, h1⟩
  have h3 : ol.length = 3 := by rw [ho.out.1.length_eq]; exact (ex_small hl).1
  have hR : hidR ol qs id = (fndI [1, 2, 3] id).bind fun a => (hidF (ledX (qs.map QueD.v)) a).map fun k => hidV (moreL (ledX (qs.map QueD.v)) 3 k) a := by unfold hidR; rw [ids_ex ho.out hl, led_ex ho.out hl, h3]
  rw [← hR] at hr
  rcases h1 with ⟨h2, _⟩ | ⟨x, A', c', h2, rfl, hfl⟩
  · rw [h2] at hr; cases hr
  · rw [h2] at hr
    obtain rfl : x = r := by simpa using hr
    exact ⟨A', c', rfl, Lib.hid hfl.flat, hb⟩
theorem hide_none (id : Int) (hl : l.map SubD.v = exT) (h : SubsAt w w.heap.size A l) (hq : QuesAt w w.heap.size S qs) (hf : FitX (qs.map QueD.v)) (hr : ((fndI [1, 2, 3] id).bind fun a => (hidF (ledX (qs.map QueD.v)) a).map fun k => hidV (moreL (ledX (qs.map QueD.v)) 3 k) a) = none) :
    Calls Tryz.prog 20 #[.int .i64 2, .slice A l.length c, .slice S qs.length sc, .int .i64 id] w fun e w' => e = .returned (.tuple #[.slice none 0 0, .int .i64 6]) ∧ Below w.heap.size w w' := by
  refine (hide_ok 2 l A c qs S sc id w (qs8 hf) (by rw [(ex_small hl).1]; decide) (fun ol ho => ⟨at_x hl hf ol ho, fun a ha => (fit_how hl hf ho ha).2⟩) (fun W hb => openAbout_x id hl h hq hf W hb)).mono ?_
  rintro e w' ⟨ol, ho, hb, h1⟩
  have h3 : ol.length = 3 := by rw [ho.out.1.length_eq]; exact (ex_small hl).1
  have hR : hidR ol qs id = (fndI [1, 2, 3] id).bind fun a => (hidF (ledX (qs.map QueD.v)) a).map fun k => hidV (moreL (ledX (qs.map QueD.v)) 3 k) a := by unfold hidR; rw [ids_ex ho.out hl, led_ex ho.out hl, h3]
  rw [← hR] at hr
  rcases h1 with ⟨h2, rfl⟩ | ⟨x, A', c', h2, rfl, hfl⟩
  · exact ⟨rfl, hb⟩
  · rw [h2] at hr; cases hr
end
end Go.Proofs.YtbkekdbabkncfaaGreat
