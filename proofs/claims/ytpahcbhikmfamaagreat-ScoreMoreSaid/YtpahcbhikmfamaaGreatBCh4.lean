/- The lists of typical values: the iterator's contract. Written by a program. -/
import Derived.Test.YtpahcbhikmfamaaGreatBCh3
import Derived.Laws.EntriesVeiled

namespace Go.Proofs.YtpahcbhikmfamaaGreat
open Go.RowKit Go.Shelf

attribute [local go_sem] Oper.semAt_some

theorem yieldAt_wide {m : Nat} (m' : Nat) {P : Program} {l : Nat} {args : Array Value} {W : World} {R : Ending → World → Prop} (h : YieldAt Fence.wide m P l args W R) : YieldAt Fence.wide m' P l args W R := by
  obtain ⟨fn, tmps, assign, body, hy, hR⟩ := h
  exact ⟨fn, tmps, assign, body, hy, hR.1, fun c cs _ => hR.2 c cs (fun d h => by cases h)⟩
section
variable (l D ss yb xb cb hb xa T : Nat) (R : Nat → Prop) (SA : Option Addr) (sc : Nat) (sp : List Spn) (CA : Option Addr) (cc : Nat) (Cs : List CutD) (J : List Vc → World → Prop) (Jx : Nat → List Vc → World → Prop)

theorem choose_all (hsl : sp.length = T) (hcl : Cs.length = T) (hxD : D ≤ xa) (hRD : ∀ b, R b → b < D) (hT : T ≤ 1000) (hCl : ∀ q ∈ Cs, q.l.length ≤ 1000)
    (hJ : ∀ pre A B, J pre A → Below D A B → J pre B) (hJx : ∀ M pre A B, Jx M pre A → Kx D M A B → Jx M pre B) (hY : YieldOk l D R T J Jx) :
    ∀ (d k : Nat), k + d = T → ∀ (done : List Vc) (cur : List Int) (W : World), ChE W (fun b => b ≠ xa ∧ (R b ∨ D ≤ b)) l ss yb xb cb hb xa T SA sc sp CA cc Cs → RowX W D xa T cur → J done W → D ≤ W.heap.size →
      Calls Tryz.prog 47 #[.int .i64 k, .pointer (some ⟨ss, 0, none⟩), .pointer (some ⟨yb, 0, none⟩), .pointer (some ⟨xb, 0, none⟩), .pointer (some ⟨cb, 0, none⟩), .pointer (some ⟨hb, 0, none⟩)] W (ChOk D (fun b => b ≠ xa ∧ (R b ∨ D ≤ b)) xa T sp Cs J Jx k done cur W)
  | 0, k, hk, done, cur, W, hE, hX, hj, hD => by
    obtain rfl : k = T := by omega
    exact (callsIn_wide (n := 8)).1 (choose_last l D ss yb xb cb hb xa k R SA sc sp CA cc Cs J Jx hsl hcl hxD hRD hT hJ hJx hY done cur W hE hX hj hD)
  | d + 1, k, hk, done, cur, W, hE, hX, hj, hD =>
    (callsIn_wide (n := 8)).1 (choose_step l D ss yb xb cb hb xa T R SA sc sp CA cc Cs J Jx k (by omega) hsl hcl hxD hRD hT hCl hJ hJx
      (fun done cur W hE hX hj hD => by
        have := choose_all hsl hcl hxD hRD hT hCl hJ hJx hY d (k + 1) (by omega) done cur W hE hX hj hD
        rw [show ((k + 1 : Nat) : Int) = (k : Int) + 1 by omega] at this
        exact this)
      done cur W hE hX hj hD)
end

theorem make_int (T : Nat) (hT : T ≤ 1000) (W : World) : (Instr.makeSlice 26 (.int .i64 (T : Int)) (.int .i64 (T : Int))).run Tryz.prog W = .ok (.slice (some ⟨W.heap.size, 0, none⟩) T T) (W.alloc (.cells (madeCells #[.int .i64 0] T) 3)) := by
  obtain ⟨i, hi, hz0, hz1, hz2⟩ := info_parts intInfo
  have := run_makeSlice (P := Tryz.prog) W 26 3 i _ Tryz.underlying26 hi hz0 .i64 .i64 (T : Int) (T : Int) (by omega) (Int.le_refl _) (by rw [hz1]; simp; omega) (by rw [hz2]; simp; omega) (by omega)
  rw [hz1, show (Value.int .i64 0).cells = #[.int .i64 0] from rfl] at this
  simpa using this
theorem rowX_made (W : World) (D T : Nat) (hD : D ≤ W.heap.size) (hT : T ≤ 1000) : RowX (W.alloc (.cells (madeCells #[.int .i64 0] T) 3)) D W.heap.size T (List.replicate T 0) := by
  refine ⟨by simp, ?_⟩
  have h := World.ownsRow_lit (size := 1) (e := 3) W (madeCells #[.int .i64 0] T) T hD (by unfold maxLen; omega) (by rw [size_madeCells]; simp)
  rw [toList_madeCells_one] at h
  have e : (List.replicate T (0 : Int)).flatMap intC = List.replicate T (Value.int .i64 0) := by
    clear h hD hT
    induction T with
    | zero => rfl
    | succ T ih => rw [List.replicate_succ, List.flatMap_cons, ih, List.replicate_succ]; rfl
  rw [e]
  exact h
/-- What the program's cuts of a model are. -/
def CutsS (w : World) (T : Nat) (cs : Nat → List Int) (e : Ending) (w' : World) : Prop :=
  ∃ CA cc Cs, e = .returned (.slice CA T cc) ∧ List.length Cs = T ∧ FlatP 1 cutC w' (fun b => w.heap.size ≤ b) CA Cs ∧ (∀ q ∈ Cs, FlatP 1 intC w' (fun b => w.heap.size ≤ b) q.A q.l) ∧ (∀ k, (Cs.getD k default).l = if k < T then ordI (cs k) else []) ∧ (∀ q ∈ Cs, q.l.length ≤ 1000) ∧ Below w.heap.size w w'
/-- All that is handed on. -/
def listsS (T : Nat) (sp : List Spn) (cs : Nat → List Int) : List (List Int) := vecs ((List.range T).map fun k => stepsI (sp.getD k default).lo (sp.getD k default).hi (cs k))
theorem restL_cuts {sp : List Spn} {Cs : List CutD} {T : Nat} {cs : Nat → List Int} (h : ∀ k, (Cs.getD k default).l = if k < T then ordI (cs k) else []) : restL sp Cs T 0 = (List.range T).map fun k => stepsI (sp.getD k default).lo (sp.getD k default).hi (cs k) := by
  unfold restL
  apply List.map_congr_left
  intro k hk
  rw [List.mem_range, Nat.sub_zero] at hk
  rw [Nat.zero_add, stepsOf, h k, if_pos hk, typL, typ_eq]

set_option maxRecDepth 100000 in
set_option maxHeartbeats 8000000 in
theorem lists1_stops (n : Nat) (ms ss T : Nat) (traits need : Int) (C T' S SA : Option Addr) (cl c tl t n' s sc : Nat) (sp : List Spn) (cs : Nat → List Int) (R : Nat → Prop) (hT : T ≤ 1000) (hsp : sp.length = T) (w : World)
    (km : Blk w ms #[.int .i64 traits, .slice C cl c, .slice T' tl t, .int .i64 need, .slice S n' s] 66) (ks : Blk w ss #[.slice SA T sc] 58) (hss : R ss) (hR : ∀ b, R b → b < w.heap.size) (hS : FlatP 2 spnC w R SA sp)
    (HC : ∀ W, Below w.heap.size w W → Calls Tryz.prog 46 #[.agg #[.int .i64 traits, .slice C cl c, .slice T' tl t, .int .i64 need, .slice S n' s]] W (CutsS W T cs)) :
    SeqM Fence.wide n Tryz.prog 45 #[.pointer (some ⟨ms, 0, none⟩), .pointer (some ⟨ss, 0, none⟩)] vcC (VcAt T) R (fun xs => xs.map Vc.v = listsS T sp cs) (fun pre => pre.map Vc.v <+: listsS T sp cs) w := by
  intro l J Jx W hW hJ hJx hY h0
  have hY' : YieldOk l W.heap.size R T J Jx := fun m pre x W1 h1 h2 h3 => yieldAt_wide m (hY pre x W1 h1 h2 h3)
  refine callsIn_wide.2 ?_
  have b1 := (Below.refl W.heap.size W).alloc (Nat.le_refl _) (.cells #[.func (.yield l) #[] #[]] 80)
  have kmW := km.below hW km.lt
  have kmc := (kmW.below b1 kmW.lt).cell
  have HC1 := Lib.hid (HC _ (hW.trans (b1.mono hW.size)))
  obtain ⟨i4, hi4, hq0, hq1, hq2⟩ := info_parts intInfo
  have hssw : ss < w.heap.size := hR ss hss
  have hTi : IntKind.i64.wrap (T : Int) = (T : Int) := IntWalk.i64_in _ (by omega)
  go_enter Tryz.func45, Tryz.ntmps45
  have hmk := make_int T hT
  go_upto_region 5 with (go_at_call 46; (with_reducible refine (HC1.out).mono ?_); rintro e w1 ⟨CA, cc, Cs, rfl, hCl, hCrow, hCeach, hCq, hCb, hB1⟩; have hw1 := (hW.trans (b1.mono hW.size)).trans (hB1.mono (by simp; have := hW.size; omega)); have ksc := ((ks.below hw1 hssw).alloc (.cells #[.slice CA T cc] 95)).cell; have kh := newAt' (((w1.alloc (.cells #[.slice CA T cc] 95)).alloc (.cells (madeCells #[.int .i64 0] T) 3)).alloc (.cells #[.slice (some ⟨w1.heap.size + 1, 0, none⟩) T T] 26)) #[.nilFunc] 70 (g := w1.heap.size + 1 + 1 + 1) (by simp); have khc := kh.cell; have khf := kh.free 0)
  have hs1 : W.heap.size + 1 ≤ w1.heap.size := by have := hB1.size; simp at this; exact this
  have c2 := Blk.new w1 #[.slice CA T cc] 95
  have b2 := (Below.refl w1.heap.size w1).alloc (Nat.le_refl _) (.cells #[.slice CA T cc] 95)
  have b3 := b2.alloc b2.size (.cells (madeCells #[.int .i64 0] T) 3)
  have b4 := b3.alloc b3.size (.cells #[.slice (some ⟨w1.heap.size + 1, 0, none⟩) T T] 26)
  have b5 := b4.alloc b4.size (.cells #[.func (.func 47) #[] #[.pointer (some ⟨ss, 0, none⟩), .pointer (some ⟨W.heap.size, 0, none⟩), .pointer (some ⟨w1.heap.size + 1 + 1, 0, none⟩), .pointer (some ⟨w1.heap.size, 0, none⟩), .pointer (some ⟨w1.heap.size + 1 + 1 + 1, 0, none⟩)]] 70)
  have hX3 := rowX_made (w1.alloc (.cells #[.slice CA T cc] 95)) W.heap.size T (by simp; omega) hT
  rw [show (w1.alloc (.cells #[.slice CA T cc] 95)).heap.size = w1.heap.size + 1 by simp] at hX3
  have r4 : Kpt (fun _ => True) ((w1.alloc (.cells #[.slice CA T cc] 95)).alloc (.cells (madeCells #[.int .i64 0] T) 3)) ((((w1.alloc (.cells #[.slice CA T cc] 95)).alloc (.cells (madeCells #[.int .i64 0] T) 3)).alloc (.cells #[.slice (some ⟨w1.heap.size + 1, 0, none⟩) T T] 26)).alloc (.cells #[.func (.func 47) #[] #[.pointer (some ⟨ss, 0, none⟩), .pointer (some ⟨W.heap.size, 0, none⟩), .pointer (some ⟨w1.heap.size + 1 + 1, 0, none⟩), .pointer (some ⟨w1.heap.size, 0, none⟩), .pointer (some ⟨w1.heap.size + 1 + 1 + 1, 0, none⟩)]] 70)) := Kpt.of_all (((Below.refl _ _).alloc (Nat.le_refl _) _).alloc (by simp) _)
  have hX5 := hX3.move r4 trivial
  have k2 : Blk ((((w1.alloc (.cells #[.slice CA T cc] 95)).alloc (.cells (madeCells #[.int .i64 0] T) 3)).alloc (.cells #[.slice (some ⟨w1.heap.size + 1, 0, none⟩) T T] 26)).alloc (.cells #[.func (.func 47) #[] #[.pointer (some ⟨ss, 0, none⟩), .pointer (some ⟨W.heap.size, 0, none⟩), .pointer (some ⟨w1.heap.size + 1 + 1, 0, none⟩), .pointer (some ⟨w1.heap.size, 0, none⟩), .pointer (some ⟨w1.heap.size + 1 + 1 + 1, 0, none⟩)]] 70)) w1.heap.size #[.slice CA T cc] 95 := ((c2.alloc _).alloc _).alloc _
  have k4 : Blk ((((w1.alloc (.cells #[.slice CA T cc] 95)).alloc (.cells (madeCells #[.int .i64 0] T) 3)).alloc (.cells #[.slice (some ⟨w1.heap.size + 1, 0, none⟩) T T] 26)).alloc (.cells #[.func (.func 47) #[] #[.pointer (some ⟨ss, 0, none⟩), .pointer (some ⟨W.heap.size, 0, none⟩), .pointer (some ⟨w1.heap.size + 1 + 1, 0, none⟩), .pointer (some ⟨w1.heap.size, 0, none⟩), .pointer (some ⟨w1.heap.size + 1 + 1 + 1, 0, none⟩)]] 70)) (w1.heap.size + 1 + 1) #[.slice (some ⟨w1.heap.size + 1, 0, none⟩) T T] 26 := (newAt' ((w1.alloc (.cells #[.slice CA T cc] 95)).alloc (.cells (madeCells #[.int .i64 0] T) 3)) _ _ (by simp)).alloc _
  have k5 : Blk ((((w1.alloc (.cells #[.slice CA T cc] 95)).alloc (.cells (madeCells #[.int .i64 0] T) 3)).alloc (.cells #[.slice (some ⟨w1.heap.size + 1, 0, none⟩) T T] 26)).alloc (.cells #[.func (.func 47) #[] #[.pointer (some ⟨ss, 0, none⟩), .pointer (some ⟨W.heap.size, 0, none⟩), .pointer (some ⟨w1.heap.size + 1 + 1, 0, none⟩), .pointer (some ⟨w1.heap.size, 0, none⟩), .pointer (some ⟨w1.heap.size + 1 + 1 + 1, 0, none⟩)]] 70)) (w1.heap.size + 1 + 1 + 1) #[.func (.func 47) #[] #[.pointer (some ⟨ss, 0, none⟩), .pointer (some ⟨W.heap.size, 0, none⟩), .pointer (some ⟨w1.heap.size + 1 + 1, 0, none⟩), .pointer (some ⟨w1.heap.size, 0, none⟩), .pointer (some ⟨w1.heap.size + 1 + 1 + 1, 0, none⟩)]] 70 := newAt' (((w1.alloc (.cells #[.slice CA T cc] 95)).alloc (.cells (madeCells #[.int .i64 0] T) 3)).alloc (.cells #[.slice (some ⟨w1.heap.size + 1, 0, none⟩) T T] 26)) _ _ (by simp)
  have ky : Blk ((((w1.alloc (.cells #[.slice CA T cc] 95)).alloc (.cells (madeCells #[.int .i64 0] T) 3)).alloc (.cells #[.slice (some ⟨w1.heap.size + 1, 0, none⟩) T T] 26)).alloc (.cells #[.func (.func 47) #[] #[.pointer (some ⟨ss, 0, none⟩), .pointer (some ⟨W.heap.size, 0, none⟩), .pointer (some ⟨w1.heap.size + 1 + 1, 0, none⟩), .pointer (some ⟨w1.heap.size, 0, none⟩), .pointer (some ⟨w1.heap.size + 1 + 1 + 1, 0, none⟩)]] 70)) W.heap.size #[.func (.yield l) #[] #[]] 80 := (((Blk.new W #[.func (.yield l) #[] #[]] 80).below hB1 (by simp)).below b5 (by omega))
  have ks5 : Blk ((((w1.alloc (.cells #[.slice CA T cc] 95)).alloc (.cells (madeCells #[.int .i64 0] T) 3)).alloc (.cells #[.slice (some ⟨w1.heap.size + 1, 0, none⟩) T T] 26)).alloc (.cells #[.func (.func 47) #[] #[.pointer (some ⟨ss, 0, none⟩), .pointer (some ⟨W.heap.size, 0, none⟩), .pointer (some ⟨w1.heap.size + 1 + 1, 0, none⟩), .pointer (some ⟨w1.heap.size, 0, none⟩), .pointer (some ⟨w1.heap.size + 1 + 1 + 1, 0, none⟩)]] 70)) ss #[.slice SA T sc] 58 := (ks.below hw1 hssw).below b5 (by have := hw1.size; omega)
  have hs5 : ((((w1.alloc (.cells #[.slice CA T cc] 95)).alloc (.cells (madeCells #[.int .i64 0] T) 3)).alloc (.cells #[.slice (some ⟨w1.heap.size + 1, 0, none⟩) T T] 26)).alloc (.cells #[.func (.func 47) #[] #[.pointer (some ⟨ss, 0, none⟩), .pointer (some ⟨W.heap.size, 0, none⟩), .pointer (some ⟨w1.heap.size + 1 + 1, 0, none⟩), .pointer (some ⟨w1.heap.size, 0, none⟩), .pointer (some ⟨w1.heap.size + 1 + 1 + 1, 0, none⟩)]] 70)).heap.size = w1.heap.size + 1 + 1 + 1 + 1 := by simp
  have k5c := k5.cell
  have hw5 : Below w.heap.size w ((((w1.alloc (.cells #[.slice CA T cc] 95)).alloc (.cells (madeCells #[.int .i64 0] T) 3)).alloc (.cells #[.slice (some ⟨w1.heap.size + 1, 0, none⟩) T T] 26)).alloc (.cells #[.func (.func 47) #[] #[.pointer (some ⟨ss, 0, none⟩), .pointer (some ⟨W.heap.size, 0, none⟩), .pointer (some ⟨w1.heap.size + 1 + 1, 0, none⟩), .pointer (some ⟨w1.heap.size, 0, none⟩), .pointer (some ⟨w1.heap.size + 1 + 1 + 1, 0, none⟩)]] 70)) := hw1.trans (b5.mono hw1.size)
  have hcr5 : FlatP 1 cutC ((((w1.alloc (.cells #[.slice CA T cc] 95)).alloc (.cells (madeCells #[.int .i64 0] T) 3)).alloc (.cells #[.slice (some ⟨w1.heap.size + 1, 0, none⟩) T T] 26)).alloc (.cells #[.func (.func 47) #[] #[.pointer (some ⟨ss, 0, none⟩), .pointer (some ⟨W.heap.size, 0, none⟩), .pointer (some ⟨w1.heap.size + 1 + 1, 0, none⟩), .pointer (some ⟨w1.heap.size, 0, none⟩), .pointer (some ⟨w1.heap.size + 1 + 1 + 1, 0, none⟩)]] 70)) (fun b => b ≠ w1.heap.size + 1 ∧ (R b ∨ W.heap.size ≤ b)) CA Cs := ((hCrow.imp (Q := fun b => W.heap.size ≤ b ∧ b < w1.heap.size) (fun b hb hp => ⟨by simp at hp; omega, hb⟩)).move (Fr.below b5)).imp (fun b _ hp => ⟨by omega, .inr hp.1⟩)
  have hce5 : ∀ q ∈ Cs, FlatP 1 intC ((((w1.alloc (.cells #[.slice CA T cc] 95)).alloc (.cells (madeCells #[.int .i64 0] T) 3)).alloc (.cells #[.slice (some ⟨w1.heap.size + 1, 0, none⟩) T T] 26)).alloc (.cells #[.func (.func 47) #[] #[.pointer (some ⟨ss, 0, none⟩), .pointer (some ⟨W.heap.size, 0, none⟩), .pointer (some ⟨w1.heap.size + 1 + 1, 0, none⟩), .pointer (some ⟨w1.heap.size, 0, none⟩), .pointer (some ⟨w1.heap.size + 1 + 1 + 1, 0, none⟩)]] 70)) (fun b => b ≠ w1.heap.size + 1 ∧ (R b ∨ W.heap.size ≤ b)) q.A q.l := fun q hq => (((hCeach q hq).imp (Q := fun b => W.heap.size ≤ b ∧ b < w1.heap.size) (fun b hb hp => ⟨by simp at hp; omega, hb⟩)).move (Fr.below b5)).imp (fun b _ hp => ⟨by omega, .inr hp.1⟩)
  have hsp5 : FlatP 2 spnC ((((w1.alloc (.cells #[.slice CA T cc] 95)).alloc (.cells (madeCells #[.int .i64 0] T) 3)).alloc (.cells #[.slice (some ⟨w1.heap.size + 1, 0, none⟩) T T] 26)).alloc (.cells #[.func (.func 47) #[] #[.pointer (some ⟨ss, 0, none⟩), .pointer (some ⟨W.heap.size, 0, none⟩), .pointer (some ⟨w1.heap.size + 1 + 1, 0, none⟩), .pointer (some ⟨w1.heap.size, 0, none⟩), .pointer (some ⟨w1.heap.size + 1 + 1 + 1, 0, none⟩)]] 70)) (fun b => b ≠ w1.heap.size + 1 ∧ (R b ∨ W.heap.size ≤ b)) SA sp := ((hS.imp (Q := fun b => R b ∧ b < w.heap.size) (fun b hb hp => ⟨hp, hb⟩)).move (Fr.below hw5)).imp (fun b _ hp => ⟨by have := hw1.size; omega, .inl hp.1⟩)
  have hj5 : J [] ((((w1.alloc (.cells #[.slice CA T cc] 95)).alloc (.cells (madeCells #[.int .i64 0] T) 3)).alloc (.cells #[.slice (some ⟨w1.heap.size + 1, 0, none⟩) T T] 26)).alloc (.cells #[.func (.func 47) #[] #[.pointer (some ⟨ss, 0, none⟩), .pointer (some ⟨W.heap.size, 0, none⟩), .pointer (some ⟨w1.heap.size + 1 + 1, 0, none⟩), .pointer (some ⟨w1.heap.size, 0, none⟩), .pointer (some ⟨w1.heap.size + 1 + 1 + 1, 0, none⟩)]] 70)) := hJ _ _ _ h0 ((((Below.refl W.heap.size W).alloc (Nat.le_refl _) _).trans (hB1.mono (by simp))).trans (b5.mono (by omega)))
  clear hCrow hCeach r4 hX3 c2 b2 b3 b4 hmk ksc kh khc khf
  generalize ((((w1.alloc (.cells #[.slice CA T cc] 95)).alloc (.cells (madeCells #[.int .i64 0] T) 3)).alloc (.cells #[.slice (some ⟨w1.heap.size + 1, 0, none⟩) T T] 26)).alloc (.cells #[.func (.func 47) #[] #[.pointer (some ⟨ss, 0, none⟩), .pointer (some ⟨W.heap.size, 0, none⟩), .pointer (some ⟨w1.heap.size + 1 + 1, 0, none⟩), .pointer (some ⟨w1.heap.size, 0, none⟩), .pointer (some ⟨w1.heap.size + 1 + 1 + 1, 0, none⟩)]] 70)) = W5 at *
  have hE5 : ChE W5 (fun b => b ≠ w1.heap.size + 1 ∧ (R b ∨ W.heap.size ≤ b)) l ss W.heap.size (w1.heap.size + 1 + 1) w1.heap.size (w1.heap.size + 1 + 1 + 1) (w1.heap.size + 1) T SA sc sp CA cc Cs :=
    ⟨ks5, ⟨by have := hw1.size; omega, .inl hss⟩, hsp5, ky, ⟨by omega, .inr (Nat.le_refl _)⟩, k4, ⟨by omega, .inr (by omega)⟩, k2, ⟨by omega, .inr (by omega)⟩, hcr5, hce5, k5, ⟨by omega, .inr (by omega)⟩⟩
  have HCH := Lib.hid (choose_all l W.heap.size ss W.heap.size (w1.heap.size + 1 + 1) w1.heap.size (w1.heap.size + 1 + 1 + 1) (w1.heap.size + 1) T R SA sc sp CA cc Cs J Jx hsp hCl (by omega) (fun b hb => by have := hR b hb; have := hW.size; omega) hT hCb hJ hJx hY' T 0 (by omega) [] (List.replicate T 0) W5 hE5 hX5 hj5 (by omega))
  have hrest := restL_cuts (sp := sp) hCq
  have hmap : (subV (w1.heap.size + 1) sp Cs T 0 []).map Vc.v = listsS T sp cs := by
    unfold subV listsS
    rw [hrest, List.map_map]
    simp [Function.comp_def]
  clear hE5 hX5 hj5 hrest hcr5 hce5 hsp5 ks5 ky k2 k4 k5
  unfold ChOk at HCH
  simp only [List.take_zero, List.nil_append, Int.ofNat_zero] at HCH
  go_wp2_with (go_at_call 47; (with_reducible refine (HCH.out).mono ?_); rintro e W6 (⟨rfl, hJ6, _, _⟩ | ⟨rfl, ⟨M, q, hq, _, hx6⟩, _⟩))
  · go_end0
    exact ⟨⟨_, rfl⟩, .inl ⟨_, hmap, hJ6⟩⟩
  · go_end0
    refine ⟨⟨_, rfl⟩, .inr ⟨M, q, ?_, hx6⟩⟩
    rw [← hmap]
    obtain ⟨t, ht⟩ := hq
    exact ⟨t.map Vc.v, by rw [← List.map_append, ht]⟩
end Go.Proofs.YtpahcbhikmfamaaGreat
