/- The closure that calls itself: a trait, with the ones behind it given. Written by a program. -/
import Derived.Test.YtpahcbhikmfamaaGreatBCh2
import Derived.StillTailTactics

namespace Go.Proofs.YtpahcbhikmfamaaGreat
open Go.RowKit Go.Shelf

attribute [local go_sem] Oper.semAt_some

section
variable (l D ss yb xb cb hb xa T : Nat) (R : Nat → Prop) (SA : Option Addr) (sc : Nat) (sp : List Spn) (CA : Option Addr) (cc : Nat) (Cs : List CutD) (J : List Vc → World → Prop) (Jx : Nat → List Vc → World → Prop)

set_option maxRecDepth 100000 in
set_option maxHeartbeats 8000000 in
theorem choose_step (k : Nat) (hkT : k < T) (hsl : sp.length = T) (hcl : Cs.length = T) (hxD : D ≤ xa) (_hRD : ∀ b, R b → b < D) (hT : T ≤ 1000) (hCl : ∀ q ∈ Cs, q.l.length ≤ 1000)
    (hJ : ∀ pre A B, J pre A → Below D A B → J pre B) (hJx : ∀ M pre A B, Jx M pre A → Kx D M A B → Jx M pre B)
    (hIH : ∀ (done : List Vc) (cur : List Int) (W : World), ChE W (fun b => b ≠ xa ∧ (R b ∨ D ≤ b)) l ss yb xb cb hb xa T SA sc sp CA cc Cs → RowX W D xa T cur → J done W → D ≤ W.heap.size →
      Calls Tryz.prog 47 #[.int .i64 ((k : Int) + 1), .pointer (some ⟨ss, 0, none⟩), .pointer (some ⟨yb, 0, none⟩), .pointer (some ⟨xb, 0, none⟩), .pointer (some ⟨cb, 0, none⟩), .pointer (some ⟨hb, 0, none⟩)] W (ChOk D (fun b => b ≠ xa ∧ (R b ∨ D ≤ b)) xa T sp Cs J Jx (k + 1) done cur W))
    (done : List Vc) (cur : List Int) (W : World) (hE : ChE W (fun b => b ≠ xa ∧ (R b ∨ D ≤ b)) l ss yb xb cb hb xa T SA sc sp CA cc Cs) (hX : RowX W D xa T cur) (hj : J done W) (hD : D ≤ W.heap.size) :
    CallsIn Fence.wide 8 Tryz.prog 47 #[.int .i64 k, .pointer (some ⟨ss, 0, none⟩), .pointer (some ⟨yb, 0, none⟩), .pointer (some ⟨xb, 0, none⟩), .pointer (some ⟨cb, 0, none⟩), .pointer (some ⟨hb, 0, none⟩)] W (ChOk D (fun b => b ≠ xa ∧ (R b ∨ D ≤ b)) xa T sp Cs J Jx k done cur W) := by
  have h1 : (1 : Nat) ≤ 8 := by omega
  have hfn : ∀ f, Fence.wide.fn f := fun _ => trivial
  have hdep : Fence.wide.depth.isSome = false := rfl
  have hmx : Tryz.prog.follows .mixedOrders = true := by kernel_rfl
  have b1 := (Below.refl W.heap.size W).alloc (Nat.le_refl _) (.cells #[.int .i64 k] 3)
  have b2 := b1.alloc b1.size (.cells #[.bool false] 4)
  have hxl : xa < W.heap.size := by
    have := hX.own.lt xa rfl; exact this.2
  have hE2 := hE.move (Kpt.of_all b2)
  have hX2 := hX.move (P := fun _ => True) (Kpt.of_all b2) trivial
  have hsc := hE2.s.cell
  have hcc := hE2.c.cell
  have kp := (Blk.new W #[.int .i64 k] 3).alloc (.cells #[.bool false] 4)
  have kr := newAt' (W.alloc (.cells #[.int .i64 k] 3)) #[.bool false] 4 (g := W.heap.size + 1) (by simp)
  have kpc := kp.cell
  have hsz : ((W.alloc (.cells #[.int .i64 k] 3)).alloc (.cells #[.bool false] 4)).heap.size = W.heap.size + 2 := by simp
  have hne : ((k : Int) == (T : Int)) = false := by simp; omega
  have hkT' : (k : Int) < (T : Int) := by omega
  have hk12 : Kpt (fun b => b ≠ xa ∧ (R b ∨ D ≤ b)) W ((W.alloc (.cells #[.int .i64 k] 3)).alloc (.cells #[.bool false] 4)) := Kpt.of_all b2
  have hk12x : Kpt (fun b => b = xa) W ((W.alloc (.cells #[.int .i64 k] 3)).alloc (.cells #[.bool false] 4)) := Kpt.of_all b2
  have hj2 := hJ _ _ _ hj (b2.mono hD)
  obtain ⟨bs, os, rfl, hbs, hbsZ, hcs⟩ := hE2.sp k (by omega)
  obtain ⟨bc, oc, rfl, hbc, hbcZ, hccs⟩ := hE2.row k (by omega)
  have hmem : Cs[k] ∈ Cs := List.getElem_mem (by omega)
  have hEk := hE2.each _ hmem
  have hckl := hCl _ hmem
  have hst : stepsOf sp Cs k = typL sp[k].lo sp[k].hi Cs[k].l := by unfold stepsOf; rw [getD_lt sp default (by omega), getD_lt Cs default (by omega)]
  have cs0 := hcs 0 (by omega)
  have cs1 := hcs 1 (by omega)
  have cc0 := hccs 0 (by omega)
  simp only [spnC, cutC, Nat.add_zero, Nat.mul_one, List.getElem?_cons_zero, List.getElem?_cons_succ] at cs0 cs1 cc0
  clear hcs hccs
  generalize sp[k] = s at *
  generalize Cs[k] = q at *
  refine callsIn_of_wp_marks Tryz.func47 rfl trivial ?_ rfl
  simp only [Tryz.ntmps47, List.size_toArray, List.length_cons, List.length_nil, Nat.reduceAdd, Nat.reduceSub, Array.replicate_succ, Array.replicate_zero, List.push_toArray, List.append_toArray, List.nil_append, List.cons_append]
  gi_wp2
  generalize hW2 : (W.alloc (.cells #[.int .i64 k] 3)).alloc (.cells #[.bool false] 4) = W2 at *
  refine wpIn_wide.2 ?_
  refine wp_region_still_tail 8 (by kernel_rfl) (by kernel_rfl) ?_
  simp only [List.take_succ_cons, List.take_zero, List.drop_succ_cons, List.drop_zero]
  repeat still_step
  refine wpStill_nil ?_
  change wpList _ _ _ _ _ W2.drew
  go_wp2_with (go_at_call 48; (with_reducible refine ((callsIn_wide (n := 7)).1 (typical_in 7 s.lo s.hi q.A q.l.length q.c W2.drew)).mono ?_); rintro e w5 ⟨rfl, rfl⟩)
  have b5 : Below W2.heap.size W2 (((W2.alloc (.cells #[.int .i64 s.lo, .int .i64 s.hi] 54)).alloc (.cells #[.slice q.A q.l.length q.c] 26)).drew) := (((Below.refl _ _).alloc (Nat.le_refl _) _).alloc (by simp) _).drew
  have s1 : Blk (((W2.alloc (.cells #[.int .i64 s.lo, .int .i64 s.hi] 54)).alloc (.cells #[.slice q.A q.l.length q.c] 26)).drew) (W.heap.size + 2) #[.int .i64 s.lo, .int .i64 s.hi] 54 := ((newAt' W2 _ _ hsz.symm).alloc _).drew
  have s2 : Blk (((W2.alloc (.cells #[.int .i64 s.lo, .int .i64 s.hi] 54)).alloc (.cells #[.slice q.A q.l.length q.c] 26)).drew) (W.heap.size + 2 + 1) #[.slice q.A q.l.length q.c] 26 := (newAt' _ _ _ (by simp; omega)).drew
  have hs5 : (((W2.alloc (.cells #[.int .i64 s.lo, .int .i64 s.hi] 54)).alloc (.cells #[.slice q.A q.l.length q.c] 26)).drew).heap.size = W.heap.size + 4 := by simp; omega
  have hk5 : ∀ P, Kpt P W2 (((W2.alloc (.cells #[.int .i64 s.lo, .int .i64 s.hi] 54)).alloc (.cells #[.slice q.A q.l.length q.c] 26)).drew) := fun P => Kpt.of_all b5
  generalize (((W2.alloc (.cells #[.int .i64 s.lo, .int .i64 s.hi] 54)).alloc (.cells #[.slice q.A q.l.length q.c] 26)).drew) = W5 at *
  have hq1 : (W.heap.size + 2 ≠ xa ∧ (R (W.heap.size + 2) ∨ D ≤ W.heap.size + 2)) ∧ W.heap.size + 2 < W5.heap.size := ⟨⟨by omega, .inr (by omega)⟩, by omega⟩
  have hq2 : (W.heap.size + 2 + 1 ≠ xa ∧ (R (W.heap.size + 2 + 1) ∨ D ≤ W.heap.size + 2 + 1)) ∧ W.heap.size + 2 + 1 < W5.heap.size := ⟨⟨by omega, .inr (by omega)⟩, by omega⟩
  have hqA : FlatP 1 intC W5 (fun b => (b ≠ xa ∧ (R b ∨ D ≤ b)) ∧ b < W5.heap.size) q.A q.l := (hEk.move (hk5 _).fr).imp (fun b hb hp => ⟨hp, hb⟩)
  have hE5 := hE2.move (hk5 _)
  have hX5 := hX2.move (hk5 (fun _ => True)) trivial
  have hj5 := hJ _ _ _ hj2 (b5.mono (by omega))
  have kp5 : Blk W5 W.heap.size #[.int .i64 k] 3 := ((hk5 (fun _ => True)).blk _ kp.lt trivial).trans kp
  have kr5 : Blk W5 (W.heap.size + 1) #[.bool false] 4 := ((hk5 (fun _ => True)).blk _ kr.lt trivial).trans kr
  have hkW5 : Kpt (fun b => b ≠ xa ∧ (R b ∨ D ≤ b)) W W5 := hk12.trans (hk5 _)
  have hlen := hX.len
  have hwk : IntKind.i64.wrap ((k : Int) + 1) = (k : Int) + 1 := IntWalk.i64_in _ (by omega)
  clear hX2 hE2 hEk hj2 hmem b5 b1 b2 hk12 hk12x hk5 hW2 cs0 cs1 cc0 hsc hcc kpc kp kr hE hX hj
  obtain ⟨fv, hfv⟩ : ∃ fv : Int → List Vc, fv = fun v => subV xa sp Cs T (k + 1) (cur.take k ++ [v]) := ⟨_, rfl⟩
  have hsub : subV xa sp Cs T k (cur.take k) = (typL s.lo s.hi q.l).flatMap fv := by rw [subV_cons xa sp Cs hkT, hst, hfv]
  gi_wp2
  refine wpIn_rangeFunc_ownG_of_H (F := Fence.wide) rfl h1 (gf := 64) (lb := #[.pointer (some ⟨W.heap.size + 2, 0, none⟩), .pointer (some ⟨W.heap.size + 2 + 1, 0, none⟩)]) rfl trivial (enters_of Tryz.func64 (by kernel_rfl) rfl)
    (typical_stops 7 (by omega) (W.heap.size + 2) (W.heap.size + 2 + 1) s.lo s.hi q.A q.c q.l hckl (fun b => (b ≠ xa ∧ (R b ∨ D ≤ b)) ∧ b < W5.heap.size) hq1 hq2 W5 s1 s2 hqA)
    (fun h k => h.trans k) (fun Wa la o o' hl _ _ _ => Kpt.put (fun h => by have := h.2; omega) o') (Below.refl _ _) (fun _ => rfl)
    (fun pre Wa => J (done ++ pre.flatMap fv) Wa ∧ (∃ cur', RowX Wa D xa T cur' ∧ cur'.take k = cur.take k) ∧ Kpt (fun b => b ≠ xa ∧ (R b ∨ D ≤ b)) W5 Wa)
    (fun c pre Wa => c = .ret ∧ (∃ M q', q' <+: pre.flatMap fv ∧ W5.heap.size ≤ M ∧ Jx M (done ++ q') Wa) ∧ Kpt (fun b => (b ≠ xa ∧ (R b ∨ D ≤ b)) ∧ b ≠ W.heap.size + 1) W5 Wa ∧ Blk Wa (W.heap.size + 1) #[.bool false] 4)
    ?own ?ownx ⟨by simpa using hj5, ⟨cur, hX5, rfl⟩, Kpt.refl _ _⟩
    (fun x => { tmps := #[.int .i64 k, .pointer (some ⟨ss, 0, none⟩), .pointer (some ⟨yb, 0, none⟩), .pointer (some ⟨xb, 0, none⟩), .pointer (some ⟨cb, 0, none⟩), .pointer (some ⟨hb, 0, none⟩), .pointer (some ⟨W.heap.size, 0, none⟩), .pointer (some ⟨W.heap.size + 1, 0, none⟩), .int .i64 x, .int .i64 k, .slice (some ⟨bs, os, none⟩) T sc, .int .i64 T, .bool false, undef, undef, undef, .slice (some ⟨bs, os, none⟩) T sc, .int .i64 k, .pointer (some ⟨bs, os + k * 2, none⟩), .agg #[.int .i64 s.lo, .int .i64 s.hi], .slice (some ⟨bc, oc, none⟩) T cc, .int .i64 k, .pointer (some ⟨bc, oc + k, none⟩), .slice q.A q.l.length q.c, .func (.func 64) #[] #[.pointer (some ⟨W.heap.size + 2, 0, none⟩), .pointer (some ⟨W.heap.size + 2 + 1, 0, none⟩)], .int .i64 x, undef, undef, undef, undef, undef, undef, undef, undef, undef], defers := [] }) ?assign ?body ?done ?stop (fun Wa => Kpt.refl _ _)
  case own =>
    intro pre A B row hs hg hr
    obtain ⟨h1', ⟨cur', h2', h3'⟩, h4'⟩ := hs
    have hsz4 := h4'.size
    refine ⟨hJ _ _ _ h1' ((Below.refl D A).grown hg (by omega) (fun r e => by have := (hr r e).1; omega)), ⟨cur', h2'.move (P := fun b => b = xa) ⟨hg.size, fun b hb hp => hg.block b hb (fun e => by have := (hr b e.symm).1; omega), hg.os, hg.tape, hg.output⟩ rfl, h3'⟩, ⟨Nat.le_trans h4'.size hg.size, fun b hb hp => (hg.block b (by omega) (fun e => by have := (hr b e.symm).1; omega)).trans (h4'.blk b hb hp), hg.os.trans h4'.os, hg.tape.trans h4'.tape, hg.output.trans h4'.output⟩⟩
  case ownx =>
    intro c pre A B row hs hg hr
    obtain ⟨hc', ⟨M, q', h1', h2', h3'⟩, h4', h5'⟩ := hs
    have hsz4 := h4'.size
    refine ⟨hc', ⟨M, q', h1', h2', hJx _ _ _ _ h3' (Kx.own hg (by omega) hr)⟩, ⟨Nat.le_trans h4'.size hg.size, fun b hb hp => (hg.block b (by omega) (fun e => by have := (hr b e.symm).1; omega)).trans (h4'.blk b hb hp), hg.os.trans h4'.os, hg.tape.trans h4'.tape, hg.output.trans h4'.output⟩, (hg.block _ h5'.lt (fun e => by have := (hr _ e.symm).1; omega)).trans h5'⟩
  case assign =>
    intro la x Wa K hK
    gi_wp2
    exact hK
  case body =>
    rintro la pre x Wa ⟨h1', ⟨cur', h2', h3'⟩, h4'⟩ hlen'
    have hsz4 := h4'.size
    have hEa := hE5.move h4'
    have hxc := hEa.x.cell
    have hhc := hEa.h.cell
    have hpc := (show Blk Wa W.heap.size #[.int .i64 k] 3 from (h4'.blk _ kp5.lt ⟨by omega, .inr (by omega)⟩).trans kp5).cell
    have hl2 := h2'.len
    have hfx := h2'.own.frozenAt k
    have hcx : Wa.cell? ⟨xa, k, none⟩ = some (.int .i64 cur'[k]) := (h2'.own.cellAt k (by omega)).trans (by have := flat_get intC_len cur' k (by omega) 0 (by omega); rw [Nat.mul_one, Nat.add_zero] at this; rw [this]; rfl)
    have hSb : ∀ P : Nat → Prop, ¬ P xa → Kpt P Wa (Wa.setCell ⟨xa, k, none⟩ (.int .i64 x)) := fun P hP => Kpt.set (p := ⟨xa, k, none⟩) hP _
    have hEb := hEa.move (hSb (fun b => b ≠ xa ∧ (R b ∨ D ≤ b)) (fun h => h.1 rfl))
    have hhb := hEb.h.cell
    have hpb := (show Blk (Wa.setCell ⟨xa, k, none⟩ (.int .i64 x)) W.heap.size #[.int .i64 k] 3 from ((hSb (fun b => b ≠ xa) (fun h => h rfl)).blk _ (by omega) (by omega)).trans ((h4'.blk _ kp5.lt ⟨by omega, .inr (by omega)⟩).trans kp5)).cell
    have hRb : RowX (Wa.setCell ⟨xa, k, none⟩ (.int .i64 x)) D xa T (cur'.set k x) := by
      refine ⟨by rw [List.length_set]; exact hl2, ?_⟩
      have := flat_set (f := intC) intC_len cur' k (by omega) x 0 (.int .i64 x) (by omega) rfl
      rw [Nat.mul_one, Nat.add_zero] at this
      rw [this]
      exact (h2'.own.stored k (.int .i64 x)).1
    have hjb : J (done ++ pre.flatMap fv) (Wa.setCell ⟨xa, k, none⟩ (.int .i64 x)) := hJ _ _ _ h1' ((Below.refl D Wa).setCell (p := ⟨xa, k, none⟩) hxD _)
    have htk : (cur'.set k x).take (k + 1) = cur.take k ++ [x] := by
      rw [List.take_succ_eq_append_getElem (by rw [List.length_set]; omega), List.getElem_set_self, List.take_set_of_le (Nat.le_refl _), h3']
    have hI1 := hIH (done ++ pre.flatMap fv) (cur'.set k x) _ hEb hRb hjb (by simp; omega)
    unfold ChOk at hI1
    rw [htk] at hI1
    have hfx1 : fv x = subV xa sp Cs T (k + 1) (cur.take k ++ [x]) := by rw [hfv]
    rw [← hfx1] at hI1
    have HI1 := Lib.hid (CallsIn.inRound la ((callsIn_wide (n := 5)).2 hI1))
    clear hI1 hIH
    have HKR : Hid (∀ Wc, Kpt (fun b => b ≠ xa ∧ (R b ∨ D ≤ b)) (Wa.setCell ⟨xa, k, none⟩ (.int .i64 x)) Wc → Blk Wc (W.heap.size + 1) #[.bool false] 4) := Lib.hid (fun Wc hkc => (hkc.blk _ (by simp; omega) ⟨by omega, .inr (by omega)⟩).trans (((hSb (fun b => b ≠ xa) (fun h => h rfl)).blk _ (by omega) (by omega)).trans ((h4'.blk _ kr5.lt ⟨by omega, .inr (by omega)⟩).trans kr5)))
    gi_wp2_with (gi_at_call 47; refine (HI1.out).mono ?_; (rintro e Wc (⟨rfl, hJc, ⟨cur3, hR3, ht3⟩, hk3⟩ | ⟨rfl, ⟨M, q', hq', hM, hx'⟩, hk3⟩) <;> (have krw := HKR.out _ hk3; have krwc := krw.cell; have krwf := krw.free 0)))
    · have hk6 : Kpt (fun b => b ≠ xa ∧ (R b ∨ D ≤ b)) Wa Wc := (hSb (fun b => b ≠ xa ∧ (R b ∨ D ≤ b)) (fun h => h.1 rfl)).trans hk3
      have hxs : xa < W5.heap.size := by omega
      refine ⟨⟨hk6.size, fun b o hb hbo _ => (hk6.blk b (Array.getElem?_eq_some_iff.1 hbo).1 ⟨by omega, .inr (by omega)⟩).trans hbo⟩, hk6.imp (fun b hb => hb.1), ?_, ⟨cur3, hR3, ?_⟩, h4'.trans hk6⟩
      · rw [List.flatMap_append, List.append_assoc] at *
        simpa using hJc
      · have h8 := congrArg (List.take k) ht3
        rw [List.take_take, Nat.min_eq_left (by omega), List.take_append_of_le_length (by rw [List.length_take]; omega), List.take_take, Nat.min_self] at h8
        exact h8
    · have hk6 : Kpt (fun b => b ≠ xa ∧ (R b ∨ D ≤ b)) Wa Wc := (hSb (fun b => b ≠ xa ∧ (R b ∨ D ≤ b)) (fun h => h.1 rfl)).trans hk3
      have hs6 := hk6.size
      have hsb : (Wa.setCell ⟨xa, k, none⟩ (.int .i64 x)).heap.size = Wa.heap.size := by simp
      have hk7 : Kpt (fun b => (b ≠ xa ∧ (R b ∨ D ≤ b)) ∧ b ≠ W.heap.size + 1) Wa (Wc.setCell ⟨W.heap.size + 1, 0, none⟩ (.bool false)) := (hk6.imp (fun b hb => hb.1)).trans (Kpt.set (p := ⟨W.heap.size + 1, 0, none⟩) (fun h => h.2 rfl) _)
      refine ⟨⟨hk7.size, fun b o hb hbo _ => (hk7.blk b (Array.getElem?_eq_some_iff.1 hbo).1 ⟨⟨by omega, .inr (by omega)⟩, by omega⟩).trans hbo⟩, rfl, ⟨M, pre.flatMap fv ++ q', flat_prefix2 fv (List.prefix_refl _) hq', by omega, ?_⟩, (h4'.imp (fun b hb => hb.1)).trans hk7, ?_⟩
      · rw [← List.append_assoc]
        exact hJx _ _ _ _ hx' (Kx.set (p := ⟨W.heap.size + 1, 0, none⟩) (by show D ≤ W.heap.size + 1; omega) (by show W.heap.size + 1 < M; omega) _)
      · have := krw.set 0 (.bool false)
        simpa using this
  case done =>
    rintro DD xs Wa hDD rfl ⟨h1', ⟨cur', h2', h3'⟩, h4'⟩ hK
    have hsz4 := h4'.size
    have krw : Blk Wa (W.heap.size + 1) #[.bool false] 4 := (h4'.blk _ kr5.lt ⟨by omega, .inr (by omega)⟩).trans kr5
    have krc := krw.cell
    have krf := krw.free 0
    gi_wp2
    have hK2 : (Wa.setCell ⟨W.heap.size + 1, 0, none⟩ (.bool true)).heap[DD]? = some (.deferred (some [])) := (Below.heap_setCell _ _ _ _ (by show DD ≠ W.heap.size + 1; omega)).trans hK
    have hrE : Blk ((Wa.setCell ⟨W.heap.size + 1, 0, none⟩ (.bool true)).putObj DD (.deferred none)) (W.heap.size + 1) #[.bool true] 4 := (World.putObj_heap_other (by omega)).trans (krw.set 0 (.bool true))
    have hrEc := hrE.cell
    have hlD : DD < (Wa.setCell ⟨W.heap.size + 1, 0, none⟩ (.bool true)).heap.size := (Array.getElem?_eq_some_iff.1 hK2).1
    have hkE : ∀ P : Nat → Prop, ¬ P (W.heap.size + 1) → ¬ P DD → Kpt P Wa ((Wa.setCell ⟨W.heap.size + 1, 0, none⟩ (.bool true)).putObj DD (.deferred none)) := fun P hP hP' => (Kpt.set (p := ⟨W.heap.size + 1, 0, none⟩) hP _).trans (Kpt.put hP' _)
    refine ⟨by simp, .inl ⟨_, _, rfl, run_takeDeferred hK2, ?_⟩⟩
    refine ⟨.bool true, by simp [results, Tryz.results47, go_sem, hrEc], .inl ⟨rfl, ?_, ⟨cur', ?_, h3'⟩, ?_⟩⟩
    · rw [hsub]
      exact hJ _ _ _ h1' (((Below.refl D Wa).setCell (p := ⟨W.heap.size + 1, 0, none⟩) (by show D ≤ W.heap.size + 1; omega) _).trans (below_putObj _ _ _ (by omega) hlD))
    · exact h2'.move (hkE (fun b => b = xa) (by omega) (by omega)) rfl
    · have hk6 := hkW5.trans h4'
      exact ⟨Nat.le_trans hk6.size (by simp), fun b hb hp => ((hkE (fun b' => b' < W.heap.size) (by omega) (by omega)).blk b (by omega) hb).trans (hk6.blk b hb hp), (hkE (fun b' => b' < W.heap.size) (by omega) (by omega)).os.trans hk6.os, (hkE (fun b' => b' < W.heap.size) (by omega) (by omega)).tape.trans hk6.tape, (hkE (fun b' => b' < W.heap.size) (by omega) (by omega)).output.trans hk6.output⟩
  case stop =>
    rintro DD c pre Wa hDD hpre ⟨rfl, ⟨M, q', h1', h2', h3'⟩, h4', h5'⟩ hK
    have hsz4 := h4'.size
    have hDl := (Array.getElem?_eq_some_iff.1 hK).1
    have krc := h5'.cell
    gi_wp2
    have hrE : Blk (Wa.putObj DD (.deferred none)) (W.heap.size + 1) #[.bool false] 4 := (World.putObj_heap_other (by omega)).trans h5'
    have hrEc := hrE.cell
    refine ⟨by simp, .inl ⟨_, _, rfl, run_takeDeferred hK, ?_⟩⟩
    refine ⟨.bool false, by simp [results, Tryz.results47, go_sem, hrEc], .inr ⟨rfl, ⟨M, q', ?_, by omega, hJx _ _ _ _ h3' (Kx.own (B := DD) (grownBy_putObj' Wa DD (.deferred none)) (by omega) (fun r e => by cases e; exact ⟨Nat.le_refl _, _, hK, rfl⟩))⟩, ?_⟩⟩
    · rw [hsub]
      exact h1'.trans (flat_prefix fv hpre)
    · have hk6 := hkW5.imp (fun b (hp : b ≠ xa ∧ (R b ∨ D ≤ b)) => hp)
      refine ⟨Nat.le_trans hk6.size (Nat.le_trans h4'.size (by simp)), fun b hb hp => ?_, h4'.os.trans hk6.os, h4'.tape.trans hk6.tape, h4'.output.trans hk6.output⟩
      have h7 := hk6.size
      exact ((Kpt.put (P := fun b' => b' < W.heap.size) (A := Wa) (l := DD) (by omega) (.deferred none)).blk b (by omega) hb).trans ((h4'.blk b (by omega) ⟨hp, by omega⟩).trans (hk6.blk b hb hp))
end
end Go.Proofs.YtpahcbhikmfamaaGreat
