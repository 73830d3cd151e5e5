/- Those who are led, by the program. -/
import Derived.Test.YtbkekdbabkncfaaGreatVSD
import Derived.Test.YtbkekdbabkncfaaGreatW6
import Derived.Scope

namespace Go.Proofs.YtbkekdbabkncfaaGreat
open Go.RowKit Go.Shelf Go.Maps

attribute [local go_sem] Oper.semAt_some

theorem noGoto_postS {F : Fence} {n : Nat} {P : Program} {fn : Func} {R : Ending → World → Prop} : ∀ e a w, bodyPostM F n P fn R e a w → Exit.noGoto (bodyPostM F n P fn R) e a w := by
  intro e a w h
  cases e <;> exact h
/-- The leads until now: the box at D, and their lists. -/
structure SolI (D : Nat) (w : World) (pre : List EqD) (W : World) : Prop where
  all : ∃ A c L, Blk W D #[.slice A (List.length L) c] 77 ∧ L.map LedD.v = solL [] (pre.map EqD.v) ∧ LedsOwn (D + 3) W A c L ∧ smallL L
  bel : Below w.heap.size w W
theorem SolI.later {D : Nat} {w A B : World} {pre : List EqD} (h : SolI D w pre A) (hb : Below A.heap.size A B) : SolI D w pre B := by
  have hw := h.bel.size
  obtain ⟨⟨X, c, L, h1, h2, h3, h4⟩, h5⟩ := h
  exact ⟨⟨X, c, L, h1.below hb h1.lt, h2, h3.later hb, h4⟩, h5.trans (hb.mono hw)⟩
theorem SolI.put {w A : World} {pre : List EqD} (h : SolI w.heap.size w pre A) {o : Obj} (o' : Obj) (hl : A.heap[w.heap.size + 2]? = some o) (ho : o.isCells = false) : SolI w.heap.size w pre (A.putObj (w.heap.size + 2) o') := by
  obtain ⟨⟨X, c, L, h1, h2, h3, h4⟩, h5⟩ := h
  exact ⟨⟨X, c, L, (World.putObj_heap_other (by omega)).trans h1, h2, leds_putLoop h3 o' hl ho, h4⟩, h5.trans (below_putObj _ _ _ (by omega) (Array.getElem?_eq_some_iff.1 hl).1)⟩
/-- An equation's box. -/
structure SolE (D g : Nat) (x : EqD) (W : World) : Prop where
  box : Blk W g #[.slice x.F x.v.fs.length x.f, .slice x.P x.v.ps.length x.p] 114
  up : D + 3 ≤ g
  eq : EqAt W W.heap.size x.F x.P x.v
theorem eqAt_putLoop {w : World} {F P : Option Addr} {e : Eqn} (h : EqAt w w.heap.size F P e) {j : Nat} {o : Obj} (o' : Obj) (hj : w.heap[j]? = some o) (ho : o.isCells = false) : EqAt (w.putObj j o') (w.putObj j o').heap.size F P e :=
  ⟨(frcs_move (Q := fun _ => True) (FlatP.of_flat h.fs (Nat.le_refl _) (fun _ _ => trivial)) (by simp) (fun b _ hb => World.putObj_heap_other (fun e => hb e)) (loop_noInt hj ho)).flat, (frcs_move (Q := fun _ => True) (FlatP.of_flat h.ps (Nat.le_refl _) (fun _ _ => trivial)) (by simp) (fun b _ hb => World.putObj_heap_other (fun e => hb e)) (loop_noInt hj ho)).flat, h.fl, h.pl⟩
theorem SolE.put {D g : Nat} {x : EqD} {A : World} (h : SolE D g x A) {j : Nat} {o : Obj} (o' : Obj) (hl : A.heap[j]? = some o) (ho : o.isCells = false) : SolE D g x (A.putObj j o') :=
  ⟨(World.putObj_heap_other (fun e => by have h9 := h.box; unfold Blk at h9; rw [← e] at hl; rw [hl] at h9; cases h9; cases ho)).trans h.box, h.up, eqAt_putLoop h.eq o' hl ho⟩
/-- The list of leads stays where an equation's box alone is written. -/
theorem LedsOwn.keptBox {B : Nat} {w w' : World} {A F P : Option Addr} {c g f p n m : Nat} {L : List LedD} (h : LedsOwn B w A c L) (hg : Blk w g #[.slice F n f, .slice P m p] 114) (hk : Kpt (fun b => b ≠ g) w w') : LedsOwn B w' A c L := by
  have hn : ∀ o q, w.cell? ⟨g, o, none⟩ ≠ some (.int .i64 q) := fun o q => by
    rw [hg.cell o]
    rcases o with _ | _ | o <;> simp
  refine ⟨h.1.kept (row := some g) ⟨hk.os, hk.tape, hk.output, hk.size, fun k hk1 hk2 => hk.blk k hk1 (fun e => hk2 (by rw [e]))⟩ ?_, fun x hx => ⟨frcs_move (h.2 x hx).1 hk.size (fun b hb hne => hk.blk b hb hne) hn, frcs_move (h.2 x hx).2 hk.size (fun b hb hne => hk.blk b hb hne) hn⟩⟩
  rcases h.1.2 with ⟨e, _⟩ | ⟨g', cap, cur, e, _, hgb, _⟩
  · rw [e]; exact .inl rfl
  · refine .inr fun e' => ?_
    rw [e] at e'
    obtain rfl : g' = g := by simpa [Value.ownBlock] using e'
    have h9 := hgb.symm.trans hg
    simp at h9
/-- Where an inner loop is: the equation less the first i leads. -/
structure SolL (D g : Nat) (L : List LedD) (x v : EqD) (i : Nat) (W wr : World) : Prop where
  e : SolE D g v wr
  re : redE ((L.map LedD.v).drop i) v.v = redE (L.map LedD.v) x.v
  rb : redB ((L.map LedD.v).drop i) v.v = true
  kpt : Kpt (fun b => b ≠ g) W wr
def SolPost (w : World) (full : List Eqn) (e : Ending) (w' : World) : Prop := ∃ A' c' L', e = .returned (.slice A' (List.length L') c') ∧ Hid (L'.map LedD.v = solL [] full ∧ LedsAt w' A' L' ∧ smallL L') ∧ Below w.heap.size w w'

set_option maxRecDepth 100000 in
set_option maxHeartbeats 16000000 in
theorem solved_in (lb tb : Nat) (columns : Int) (ol : List SubD) (A : Option Addr) (c m : Nat) (qs : List QueD) (Q : Option Addr) (qc : Nat) (w : World)
    (kl : Blk w lb #[.slice Q qs.length qc] 35) (kt : Blk w tb #[.slice A ol.length c, .map (some m)] 72) (hT : TabAt w columns ol A m) (hQ : QuesAt w w.heap.size Q qs) (hv : ∀ q ∈ qs, queB columns q.v = true) (hl : qs.length ≤ 8) (hb : solB [] (eqnL ol qs.length 0 (qs.map QueD.v)) = true) :
    CallsIn Fence.wide 8 Tryz.prog 71 #[.func (.func 105) #[] #[.pointer (some ⟨lb, 0, none⟩), .pointer (some ⟨tb, 0, none⟩)]] w (SolPost w (eqnL ol qs.length 0 (qs.map QueD.v))) := by
  have h1 : (1 : Nat) ≤ 8 := by omega
  have hfn : ∀ f, Fence.wide.fn f := fun _ => trivial
  have hdep : Fence.wide.depth.isSome = false := rfl
  have b1 := (Below.refl w.heap.size w).alloc (Nat.le_refl _) (.cells #[.slice none 0 0] 77)
  have k1 := Blk.new w #[.slice none 0 0] 77
  have hfl : (eqnL ol qs.length 0 (qs.map QueD.v)).length ≤ 8 := by have := eqnL_len ol qs.length (qs.map QueD.v) 0; simp at this; omega
  have HSeq := Lib.hid (equations1_stops 7 lb tb columns ol A c m qs Q qc w kl kt hT hQ hv hl)
  have HB := Lib.hid hb
  clear kl kt hT hQ hv hl hb
  generalize eqnL ol qs.length 0 (qs.map QueD.v) = full at *
  refine callsIn_of_wp_marks Tryz.func71 rfl trivial ?_ rfl
  simp only [Tryz.ntmps71, List.size_toArray, List.length_cons, List.length_nil, Nat.reduceAdd, Nat.reduceSub, Array.replicate_succ, Array.replicate_zero, List.push_toArray, List.append_toArray, List.nil_append, List.cons_append]
  gi_wp2
  refine wpIn_wide.2 (wp_scope_straight (wp_mono ((wpIn_wide (n := 8)).1 ?_) noGoto_postS))
  gi_wp2
  rename_i K hK
  refine wpIn_label ?_
  refine hK _ _ ?_; clear hK K
  gi_wp2
  rename_i K hK
  have HK := Lib.hid hK
  have hs5 : (w.alloc (.cells #[.slice none 0 0] 77)).heap.size = w.heap.size + 1 := by simp
  have HI0 : Hid (SolI w.heap.size w [] (w.alloc (.cells #[.slice none 0 0] 77))) := Lib.hid ⟨⟨none, 0, [], k1, rfl, ⟨World.ownsRow_nil _ _ _ _, fun x hx => by cases hx⟩, fun x hx => by cases hx⟩, b1⟩
  clear hK k1
  generalize hW5 : w.alloc (.cells #[.slice none 0 0] 77) = W5 at *
  clear hW5
  refine wpIn_rangeFunc_ownT (F := Fence.wide) rfl h1 (gf := 105) (lb := #[.pointer (some ⟨lb, 0, none⟩), .pointer (some ⟨tb, 0, none⟩)]) rfl trivial (enters_of Tryz.func105 (by kernel_rfl) rfl)
    HSeq.out (fun b hb => by have hb2 : b < w.heap.size := hb; omega) b1 (fun _ => rfl)
    (fun pre W => SolI w.heap.size w pre W) (fun pre A B h hb => h.later hb) (fun pre A o o' h hl ho => by rw [hs5] at hl ⊢; exact h.put o' hl ho) HI0.out
    (fun pre x a' W => ∃ g, a' = { tmps := #[.func (.func 105) #[] #[.pointer (some ⟨lb, 0, none⟩), .pointer (some ⟨tb, 0, none⟩)], undef, .slice none 0 0, .pointer (some ⟨w.heap.size, 0, none⟩), .pointer (some ⟨g, 0, none⟩), undef, undef, .func (.func 105) #[] #[.pointer (some ⟨lb, 0, none⟩), .pointer (some ⟨tb, 0, none⟩)], .agg #[.slice x.F x.v.fs.length x.f, .slice x.P x.v.ps.length x.p], undef, undef, undef, undef, undef, undef, undef, undef, undef, undef, undef, undef, undef, undef, undef, undef, undef], defers := [] } ∧ Hid (SolI w.heap.size w pre W ∧ SolE w.heap.size g x W))
    (fun pre x a' A o o' h hl ho => by
      obtain ⟨g, e, h⟩ := h
      rw [hs5] at hl ⊢
      exact ⟨g, e, Lib.hid ⟨h.out.1.put o' hl ho, h.out.2.put o' hl ho⟩⟩) ?assign ?body ?done
  case assign =>
    rintro l pre x W K rfl ⟨r, hr⟩ hI hat hK2
    have HK2 := Lib.hid hK2
    have hlt := (Array.getElem?_eq_some_iff.1 hr).1
    have bg := (Below.refl W.heap.size W).alloc (Nat.le_refl _) (.cells #[.slice x.F x.v.fs.length x.f, .slice x.P x.v.ps.length x.p] 114)
    have kg := Blk.new W #[.slice x.F x.v.fs.length x.f, .slice x.P x.v.ps.length x.p] 114
    have hat2 : EqAt W W.heap.size x.F x.P x.v := hat
    have HIp := Lib.hid hI
    clear hK2 hI
    simp only [encE]
    gi_wp2
    refine HK2.out _ _ ?_ ⟨_, rfl, ?_⟩
    · exact bg
    · exact Lib.hid ⟨HIp.out.later bg, ⟨kg, by omega, hat2.later bg⟩⟩
  case body =>
    rintro la pre x a' W hla ⟨r, hr⟩ hsp ⟨g, rfl, HH⟩
    obtain ⟨⟨⟨LA, lc, L, q1, q2, q3, q4⟩, q5⟩, hE0⟩ := HH.out
    have hlt := (Array.getElem?_eq_some_iff.1 hr).1
    obtain ⟨hb1, hsn, hll⟩ := sol_round HB.out hsp
    have hLl : L.length ≤ 8 := by
      have h9 := congrArg List.length q2
      simp only [List.length_map] at h9; omega
    have hgs := hE0.box.lt
    have HSn := Lib.hid hsn
    have HQ2 := Lib.hid q2
    have HQ3 := Lib.hid q3
    have HQ4 := Lib.hid q4
    have HQ5 := Lib.hid q5
    rw [← q2] at hb1
    unfold solB1 at hb1
    rw [Bool.and_eq_true] at hb1
    have HB1 := Lib.hid hb1.2
    have HL0 : Hid (SolL w.heap.size g L x x 0 W W) := Lib.hid ⟨hE0, rfl, hb1.1, Kpt.refl _ _⟩
    have HQ1 := Lib.hid q1
    have hgD := hE0.up
    have q1c := q1.cell
    clear HK hE0 hsn hb1 q2 q3 q4 q5 HH hr HI0 HSeq
    gi_wp2
    rename_i Q' K hK
    have HK := Lib.hid hK
    clear hK
    gi_loopw [11] (fun ii wr => ∃ (i : Nat) (v : EqD), i ≤ L.length ∧ ii = .int .i64 i ∧ Hid (SolL w.heap.size g L x v i W wr)) (fun ii _ => L.length - (vInt ii).toNat)
    case atStart => exact ⟨0, x, Nat.zero_le _, rfl, HL0⟩
    case round =>
      obtain ⟨i, v, hi, rfl, hR⟩ := hrel
      obtain ⟨hE, hre, hrb, hk⟩ := hR.out
      clear hR
      by_cases hlt2 : i < L.length
      · have hil : (i : Int) < (L.length : Int) := by omega
        have HLr := Lib.hid (HQ3.out.keptBox HL0.out.e.box hk)
        obtain ⟨gb, hA, hgB, hgl, c0, c1, c2, hfz⟩ := leds_at HLr.out hlt2
        subst hA
        have hdr : (L.map LedD.v).drop i = L[i].v :: (L.map LedD.v).drop (i + 1) := by rw [List.drop_eq_getElem_cons (by simpa using hlt2), List.getElem_map]
        rw [hdr] at hre hrb
        simp only [redE, redB, Bool.and_eq_true, Bool.or_eq_true] at hre hrb
        have HEq := Lib.hid (HLr.out.eqAt HQ4.out hlt2)
        have HEe := Lib.hid hE.eq
        have HW := Lib.hid (fun (W' : World) (hb : Below wr.heap.size wr W') => CallsIn.inRound la ((callsIn_wide (n := 5)).2 (without_any v.v v.F v.P v.f v.p L[i].v L[i].F L[i].P L[i].f L[i].p W' (HEe.out.later hb) (HEq.out.later hb) hrb.1)))
        have HEm := Lib.hid (fun W' F P f p (h : EqAt W' W'.heap.size F P (witE v.v L[i].v)) => CallsIn.inRound la ((callsIn_wide (n := 5)).2 (isEmpty_any (witE v.v L[i].v) F P f p W' h)))
        have HWl := Lib.hid (wit_len hrb.1)
        have HEl := Lib.hid (And.intro hE.eq.fl hE.eq.pl)
        have kE := hE.box
        have hgr := kE.lt
        have kEc := kE.cell
        have Hre := Lib.hid hre
        have Hrb := Lib.hid hrb.2
        have Hk := Lib.hid hk
        have HkE := Lib.hid kE
        clear hre hrb hk hE hdr HEq HEe HLr
        generalize hyy : L[i] = y at *
        generalize hvv : witE v.v y.v = u at *
        clear hyy hvv
        have bA := (Below.refl wr.heap.size wr).alloc (Nat.le_refl _) (.cells #[.slice y.F y.v.e.fs.length y.f, .slice y.P y.v.e.ps.length y.p, .int .i64 y.v.at_] 116)
        have kb := Blk.new wr #[.slice y.F y.v.e.fs.length y.f, .slice y.P y.v.e.ps.length y.p, .int .i64 y.v.at_] 116
        gi_upto_region 7 with fail
        have hz4 : wr.heap.size ≤ (wr.alloc (.cells #[.slice y.F y.v.e.fs.length y.f, .slice y.P y.v.e.ps.length y.p, .int .i64 y.v.at_] 116)).heap.size := by simp
        generalize hW4 : wr.alloc (.cells #[.slice y.F y.v.e.fs.length y.f, .slice y.P y.v.e.ps.length y.p, .int .i64 y.v.at_] 116) = W4 at *
        clear hW4 c0 c1 c2
        have kbc := kb.cell
        have kEA := kE.below bA hgr
        have kEAc := kEA.cell
        gi_upto_region 8 with (gi_at_call 101; refine (HW.out _ bA).mono ?_; rintro en w5 ⟨A5, a5, A6, a6, rfl, hf5, h5⟩; have e5 := bA.trans (h5.mono bA.size); have k5 := HkE.out.below e5 hgr; have k5c := k5.cell; have k5f := k5.free)
        have k6 : Blk ((w5.setCell ⟨g, 0, none⟩ (.slice A5 u.fs.length a5)).setCell ⟨g, 1, none⟩ (.slice A6 u.ps.length a6)) g #[.slice A5 u.fs.length a5, .slice A6 u.ps.length a6] 114 := by simpa using (k5.set 0 (.slice A5 u.fs.length a5)).set 1 (.slice A6 u.ps.length a6)
        have hq6 : EqAt ((w5.setCell ⟨g, 0, none⟩ (.slice A5 u.fs.length a5)).setCell ⟨g, 1, none⟩ (.slice A6 u.ps.length a6)) ((w5.setCell ⟨g, 0, none⟩ (.slice A5 u.fs.length a5)).setCell ⟨g, 1, none⟩ (.slice A6 u.ps.length a6)).heap.size A5 A6 u :=
          ⟨((hf5.out.1.imp (Q := fun b => b ≠ g) (fun b _ hb => by omega)).move ((Fr.set (p := ⟨g, 0, none⟩) (fun e => e rfl) _).trans (Fr.set (p := ⟨g, 1, none⟩) (fun e => e rfl) _))).flat, ((hf5.out.2.imp (Q := fun b => b ≠ g) (fun b _ hb => by omega)).move ((Fr.set (p := ⟨g, 0, none⟩) (fun e => e rfl) _).trans (Fr.set (p := ⟨g, 1, none⟩) (fun e => e rfl) _))).flat, by have h8 := HWl.out; have h9 := HEl.out; omega, by have h8 := HWl.out; have h9 := HEl.out; omega⟩
        have kp6 : Kpt (fun b => b ≠ g) W ((w5.setCell ⟨g, 0, none⟩ (.slice A5 u.fs.length a5)).setCell ⟨g, 1, none⟩ (.slice A6 u.ps.length a6)) := Hk.out.trans ((Kpt.of_all e5).trans ((Kpt.set (p := ⟨g, 0, none⟩) (fun e => e rfl) _).trans (Kpt.set (p := ⟨g, 1, none⟩) (fun e => e rfl) _)))
        have hz6 : ((w5.setCell ⟨g, 0, none⟩ (.slice A5 u.fs.length a5)).setCell ⟨g, 1, none⟩ (.slice A6 u.ps.length a6)).heap.size = w5.heap.size := by simp
        have Hk6 := Lib.hid k6
        have Hq6 := Lib.hid hq6
        have Hp6 := Lib.hid kp6
        have k6c := k6.cell
        generalize hW6 : ((w5.setCell ⟨g, 0, none⟩ (.slice A5 u.fs.length a5)).setCell ⟨g, 1, none⟩ (.slice A6 u.ps.length a6)) = W6 at *
        clear hW6 hf5 k5 k5c k5f h5 e5 kp6 k6 hq6 hz6 kEA kEAc kbc kb kE kEc HkE Hk HW bA
        cases hem : empE u with
        | false =>
          rw [hem] at HEm
          gi_wp2_with (gi_at_call 102; refine (HEm.out _ A5 A6 a5 a6 Hq6.out).mono ?_; rintro en w7 ⟨rfl, h7⟩)
          go_roundw
          case rel => exact ⟨i + 1, ⟨u, A5, a5, A6, a6⟩, by omega, by go_num, Lib.hid ⟨⟨Hk6.out.below h7 Hk6.out.lt, hgD, Hq6.out.later h7⟩, by have h9 := Hre.out; rw [hem] at h9; simpa using h9, by have h9 := Hrb.out; rw [hem] at h9; simpa using h9, Hp6.out.trans (Kpt.of_all h7)⟩⟩
          case measure => simp [vInt]; omega
        | true =>
          rw [hem] at HEm
          gi_wp2_with (gi_at_call 102; refine (HEm.out _ A5 A6 a5 a6 Hq6.out).mono ?_; rintro en w7 ⟨rfl, h7⟩)
          have kp := Hp6.out.trans (Kpt.of_all h7)
          have hred : redE (L.map LedD.v) x.v = none := by rw [← Hre.out, hem, if_pos rfl]
          refine ⟨kp.imp (fun b hb => by omega), ⟨_, lc, L, (kp.blk _ HQ1.out.lt (by omega)).trans HQ1.out, ?_, HQ3.out.keptBox HL0.out.e.box kp, HQ4.out⟩, HQ5.out.trans (kp.below HQ5.out.size (fun b hb => by omega))⟩
          rw [HSn.out, ← HQ2.out]; unfold solS; rw [hred]
      · have hil : ¬ (i : Int) < (L.length : Int) := by omega
        obtain rfl : i = L.length := by omega
        have hd0 : (L.map LedD.v).drop L.length = [] := List.drop_of_length_le (by simp)
        rw [hd0] at hre
        have hred : redE (L.map LedD.v) x.v = some v.v := hre.symm
        have HB2 : Hid (leadB v.v = true ∧ joinB (L.map LedD.v) (leadE v.v) = true) := Lib.hid (by
          have h9 := HB1.out
          rw [hred] at h9
          simpa [Bool.and_eq_true] using h9)
        have HLr := Lib.hid (HQ3.out.keptBox HL0.out.e.box hk)
        have kD : Blk wr w.heap.size #[.slice LA L.length lc] 77 := (hk.blk _ HQ1.out.lt (by omega)).trans HQ1.out
        have HkD := Lib.hid kD
        have HkE := Lib.hid hE
        have Hred := Lib.hid hred
        have Hk := Lib.hid hk
        have hsz := hk.size
        have hll2 : (leadE v.v).e.fs.length ≤ 1000 ∧ (leadE v.v).e.ps.length ≤ 1000 := by
          have h9 := hE.eq.fl
          have h8 := hE.eq.pl
          simp only [leadE, divL, List.length_map]; exact ⟨h9, h8⟩
        have HLd := Lib.hid (fun W' (hb : Below wr.heap.size wr W') => CallsIn.inRound la ((callsIn_wide (n := 5)).2 (leadE_any v.v v.F v.P v.f v.p W' (HkE.out.eq.later hb) HB2.out.1)))
        have HJn := Lib.hid (fun W' (G : Option Addr) (g7 : Nat) (R : Option Addr) (r7 : Nat) (hb : Below wr.heap.size wr W') (hf : FlatP 2 frcC W' (fun b => wr.heap.size ≤ b) G (leadE v.v).e.fs ∧ FlatP 2 frcC W' (fun b => wr.heap.size ≤ b) R (leadE v.v).e.ps) => CallsIn.inRound la ((callsIn_wide (n := 5)).2 (joined_any (w.heap.size + 3) L LA lc (leadE v.v) G R g7 r7 W' (by have := hb.size; omega) (HLr.out.later hb) HQ4.out (by omega) ⟨hf.1.imp (fun b _ h9 e => by have := (HLr.out.1.lt b e).2; omega), hf.2.imp (fun b _ h9 e => by have := (HLr.out.1.lt b e).2; omega)⟩ hll2 HB2.out.2)))
        have HDc := Lib.hid (fun W' (hb : Below wr.heap.size wr W') => And.intro (HkD.out.below hb HkD.out.lt).cell (HkE.out.box.below hb HkE.out.box.lt).cell)
        have HDb := Lib.hid (fun W' W2 (hb : Below wr.heap.size wr W') (h8 : Below (w.heap.size + 3) W' W2) => And.intro (show Blk W2 w.heap.size _ _ from (h8.block _ (by omega)).trans (HkD.out.below hb HkD.out.lt)).cell (show Blk W2 w.heap.size _ _ from (h8.block _ (by omega)).trans (HkD.out.below hb HkD.out.lt)).free)
        gi_wp2
        refine HK.out _ _ ?_
        clear hre hk hE kD hred hd0 HK q1c
        have DX : Below wr.heap.size wr wr.drew := (Below.refl _ _).drew
        obtain ⟨ax, bx⟩ := HDc.out _ DX
        have Hl2 := Lib.hid hll2
        generalize hlv : leadE v.v = lv at *
        refine wpIn_mono (Q := fun e a' w' => e = .normal ∧ ∃ A8 c8 L8 w8, w' = w8.setCell ⟨w.heap.size, 0, none⟩ (.slice A8 (List.length L8) c8) ∧ Hid (L8.map LedD.v = joinL (L.map LedD.v) lv ∧ (LedsOwn (w.heap.size + 3) w8 A8 c8 L8 ∧ smallL L8) ∧ ∃ w7, Below wr.heap.size wr w7 ∧ Below (w.heap.size + 3) w7 w8)) ?_ ?_
        · refine wpIn_region_round rfl (by kernel_rfl) (by kernel_rfl) ?_
          refine wpAnyIn_ready (rs := [0, 1]) (by kernel_rfl) (by simp) ?_
          refine AllReadyIn.cons rfl (fun K hK => ?_) ?_
          · go_simp
            refine hK _ _ ?_; clear hK K
            refine wpAnyIn_ready (rs := [1]) (by kernel_rfl) (by simp) ?_
            refine AllReadyIn.cons rfl (fun K hK => ?_) ?_
            · go_simp
              refine hK _ _ ?_; clear hK K
              refine wpAnyIn_ready (rs := [2]) (by kernel_rfl) (by simp) ?_
              refine AllReadyIn.cons rfl (fun K hK => ?_) ?_
              · go_simp
                gi_wp2_with (gi_at_call 104; refine (CallsIn.outOfRound (HLd.out _ DX)).mono ?_; rintro en w7 ⟨G, g7, R, r7, rfl, hf7, h7⟩; have d7 := DX.trans (h7.mono DX.size); obtain ⟨a7, b7⟩ := HDc.out _ d7)
                refine wpAnyIn_ready (rs := [3]) (by kernel_rfl) (by simp) ?_
                refine AllReadyIn.cons rfl (fun K hK => ?_) ?_
                · go_simp
                  gi_wp2_with (gi_at_call 103; refine (CallsIn.outOfRound (HJn.out _ G g7 R r7 d7 hf7.out)).mono ?_; rintro en w8 ⟨A8, c8, L8, rfl, hm8, hx8, h8⟩; have a8 := (HDb.out w7 w8 d7 h8).1; have b8 := (HDb.out w7 w8 d7 h8).2)
                  refine wpAnyIn_ready (rs := [4]) (by kernel_rfl) (by simp) ?_
                  refine AllReadyIn.cons rfl (fun K hK => ?_) ?_
                  · go_simp
                    refine hK _ _ ?_; clear hK K
                    refine wpAnyIn_done (by kernel_rfl) ?_ _
                    exact ⟨rfl, A8, c8, L8, w8, rfl, Lib.hid ⟨hm8, hx8.out, w7, d7, h8⟩⟩
                  exact AllReadyIn.nil
                exact AllReadyIn.nil
              exact AllReadyIn.nil
            exact AllReadyIn.nil
          refine AllReadyIn.cons rfl (fun K hK => ?_) ?_
          · go_simp
            refine hK _ _ ?_; clear hK K
            refine wpAnyIn_ready (rs := [0, 2]) (by kernel_rfl) (by simp) ?_
            refine AllReadyIn.cons rfl (fun K hK => ?_) ?_
            · go_simp
              refine hK _ _ ?_; clear hK K
              refine wpAnyIn_ready (rs := [2]) (by kernel_rfl) (by simp) ?_
              refine AllReadyIn.cons rfl (fun K hK => ?_) ?_
              · go_simp
                gi_wp2_with (gi_at_call 104; refine (CallsIn.outOfRound (HLd.out _ DX)).mono ?_; rintro en w7 ⟨G, g7, R, r7, rfl, hf7, h7⟩; have d7 := DX.trans (h7.mono DX.size); obtain ⟨a7, b7⟩ := HDc.out _ d7)
                refine wpAnyIn_ready (rs := [3]) (by kernel_rfl) (by simp) ?_
                refine AllReadyIn.cons rfl (fun K hK => ?_) ?_
                · go_simp
                  gi_wp2_with (gi_at_call 103; refine (CallsIn.outOfRound (HJn.out _ G g7 R r7 d7 hf7.out)).mono ?_; rintro en w8 ⟨A8, c8, L8, rfl, hm8, hx8, h8⟩; have a8 := (HDb.out w7 w8 d7 h8).1; have b8 := (HDb.out w7 w8 d7 h8).2)
                  refine wpAnyIn_ready (rs := [4]) (by kernel_rfl) (by simp) ?_
                  refine AllReadyIn.cons rfl (fun K hK => ?_) ?_
                  · go_simp
                    refine hK _ _ ?_; clear hK K
                    refine wpAnyIn_done (by kernel_rfl) ?_ _
                    exact ⟨rfl, A8, c8, L8, w8, rfl, Lib.hid ⟨hm8, hx8.out, w7, d7, h8⟩⟩
                  exact AllReadyIn.nil
                exact AllReadyIn.nil
              exact AllReadyIn.nil
            refine AllReadyIn.cons rfl (fun K hK => ?_) ?_
            · go_simp
              gi_wp2_with (gi_at_call 104; refine (CallsIn.outOfRound (HLd.out _ DX)).mono ?_; rintro en w7 ⟨G, g7, R, r7, rfl, hf7, h7⟩; have d7 := DX.trans (h7.mono DX.size); obtain ⟨a7, b7⟩ := HDc.out _ d7)
              refine wpAnyIn_ready (rs := [0]) (by kernel_rfl) (by simp) ?_
              refine AllReadyIn.cons rfl (fun K hK => ?_) ?_
              · go_simp
                refine hK _ _ ?_; clear hK K
                refine wpAnyIn_ready (rs := [3]) (by kernel_rfl) (by simp) ?_
                refine AllReadyIn.cons rfl (fun K hK => ?_) ?_
                · go_simp
                  gi_wp2_with (gi_at_call 103; refine (CallsIn.outOfRound (HJn.out _ G g7 R r7 d7 hf7.out)).mono ?_; rintro en w8 ⟨A8, c8, L8, rfl, hm8, hx8, h8⟩; have a8 := (HDb.out w7 w8 d7 h8).1; have b8 := (HDb.out w7 w8 d7 h8).2)
                  refine wpAnyIn_ready (rs := [4]) (by kernel_rfl) (by simp) ?_
                  refine AllReadyIn.cons rfl (fun K hK => ?_) ?_
                  · go_simp
                    refine hK _ _ ?_; clear hK K
                    refine wpAnyIn_done (by kernel_rfl) ?_ _
                    exact ⟨rfl, A8, c8, L8, w8, rfl, Lib.hid ⟨hm8, hx8.out, w7, d7, h8⟩⟩
                  exact AllReadyIn.nil
                exact AllReadyIn.nil
              exact AllReadyIn.nil
            exact AllReadyIn.nil
          exact AllReadyIn.nil
        · rintro e a' w' ⟨rfl, A8, c8, L8, w8, rfl, HF⟩
          obtain ⟨hm8, ⟨ho8, hs8⟩, w7, d7, h8⟩ := HF.out
          have kp : Kpt (fun b => b < w.heap.size + 3 ∧ b ≠ w.heap.size) W (w8.setCell ⟨w.heap.size, 0, none⟩ (.slice A8 L8.length c8)) :=
            ((Hk.out.imp (fun b hb => by omega)).trans (Kpt.of_all d7)).trans ((Kpt.of_below h8 (fun b hb => hb.1)).trans (Kpt.set (p := ⟨w.heap.size, 0, none⟩) (fun e => e.2 rfl) _))
          have k8 : Blk w8 w.heap.size #[.slice LA L.length lc] 77 := (h8.block _ (by omega)).trans (HkD.out.below d7 HkD.out.lt)
          refine ⟨kp.imp (fun b hb => by omega), ⟨A8, c8, L8, by simpa using k8.set 0 (.slice A8 L8.length c8), ?_, leds_setBox ho8 _ k8 (by omega), hs8⟩, HQ5.out.trans (kp.below HQ5.out.size (fun b hb => by omega))⟩
          rw [HSn.out, ← HQ2.out, hm8, ← hlv]; unfold solS; rw [Hred.out]
  case done =>
    rintro DD xs Wa hDD hxs ⟨⟨LA, lc, L, q1, q2, q3, q4⟩, q5⟩ hKd
    rw [hxs] at q2
    have hDl := (Array.getElem?_eq_some_iff.1 hKd).1
    have q1c := q1.cell
    have HF := Lib.hid (And.intro q2 (And.intro q3 (And.intro q4 q5)))
    refine HK.out _ _ ?_
    clear HK q2 q3 q4 q5 HI0 HSeq
    gi_wp2
    refine ⟨by simp, .inl ⟨_, _, rfl, run_takeDeferred hKd, ?_⟩⟩
    refine ⟨.slice LA L.length lc, by simp [results, Tryz.results71, go_sem], LA, lc, L, rfl, Lib.hid ⟨HF.out.1, (leds_putLoop HF.out.2.1 _ hKd rfl).at HF.out.2.2.1, HF.out.2.2.1⟩, ?_⟩
    exact HF.out.2.2.2.trans (below_putObj _ _ _ (by omega) hDl)
theorem solved_any (lb tb : Nat) (columns : Int) (ol : List SubD) (A : Option Addr) (c m : Nat) (qs : List QueD) (Q : Option Addr) (qc : Nat) (w : World)
    (kl : Blk w lb #[.slice Q qs.length qc] 35) (kt : Blk w tb #[.slice A ol.length c, .map (some m)] 72) (hT : TabAt w columns ol A m) (hQ : QuesAt w w.heap.size Q qs) (hv : ∀ q ∈ qs, queB columns q.v = true) (hl : qs.length ≤ 8) (hb : solB [] (eqnL ol qs.length 0 (qs.map QueD.v)) = true) :
    Calls Tryz.prog 71 #[.func (.func 105) #[] #[.pointer (some ⟨lb, 0, none⟩), .pointer (some ⟨tb, 0, none⟩)]] w (SolPost w (eqnL ol qs.length 0 (qs.map QueD.v))) :=
  (callsIn_wide (n := 8)).1 (solved_in lb tb columns ol A c m qs Q qc w kl kt hT hQ hv hl hb)
end Go.Proofs.YtbkekdbabkncfaaGreat
