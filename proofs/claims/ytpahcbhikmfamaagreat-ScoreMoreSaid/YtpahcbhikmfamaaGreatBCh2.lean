/- The closure that calls itself: its contract. Written by a program. -/
import Derived.Test.YtpahcbhikmfamaaGreatBCh

namespace Go.Proofs.YtpahcbhikmfamaaGreat
open Go.RowKit Go.Shelf

attribute [local go_sem] Oper.semAt_some

/-- What a round of the caller's does. -/
def YieldOk (l D : Nat) (R : Nat → Prop) (T : Nat) (J : List Vc → World → Prop) (Jx : Nat → List Vc → World → Prop) : Prop :=
  ∀ (m : Nat) (pre : List Vc) (x : Vc) (W1 : World), J pre W1 → VcAt T x W1 → D ≤ W1.heap.size → YieldAt Fence.wide m Tryz.prog l (vcC x) W1 fun e W' =>
    (e = .returned (.bool true) ∧ J (pre ++ [x]) W' ∧ Kpt (fun b => R b ∨ D ≤ b) W1 W') ∨ (e = .returned (.bool false) ∧ Jx W1.heap.size (pre ++ [x]) W' ∧ Kpt (fun b => R b ∨ D ≤ b) W1 W')
def ChOk (D : Nat) (Z : Nat → Prop) (xa T : Nat) (sp : List Spn) (Cs : List CutD) (J : List Vc → World → Prop) (Jx : Nat → List Vc → World → Prop) (k : Nat) (done : List Vc) (cur : List Int) (W : World) (e : Ending) (W' : World) : Prop :=
  (e = .returned (.bool true) ∧ J (done ++ subV xa sp Cs T k (cur.take k)) W' ∧ (∃ cur', RowX W' D xa T cur' ∧ cur'.take k = cur.take k) ∧ Kpt Z W W') ∨
  (e = .returned (.bool false) ∧ (∃ M q, q <+: subV xa sp Cs T k (cur.take k) ∧ W.heap.size ≤ M ∧ Jx M (done ++ q) W') ∧ Kpt Z W W')

section
variable (l D ss yb xb cb hb xa T : Nat) (R : Nat → Prop) (SA : Option Addr) (sc : Nat) (sp : List Spn) (CA : Option Addr) (cc : Nat) (Cs : List CutD) (J : List Vc → World → Prop) (Jx : Nat → List Vc → World → Prop)

set_option maxRecDepth 100000 in
set_option maxHeartbeats 8000000 in
theorem choose_last (_hsl : sp.length = T) (_hcl : Cs.length = T) (hxD : D ≤ xa) (_hRD : ∀ b, R b → b < D) (_hT : T ≤ 1000)
    (hJ : ∀ pre A B, J pre A → Below D A B → J pre B) (hJx : ∀ M pre A B, Jx M pre A → Kx D M A B → Jx M pre B) (hY : YieldOk l D R T J Jx)
    (done : List Vc) (cur : List Int) (W : World) (hE : ChE W (fun b => b ≠ xa ∧ (R b ∨ D ≤ b)) l ss yb xb cb hb xa T SA sc sp CA cc Cs) (hX : RowX W D xa T cur) (hj : J done W) (hD : D ≤ W.heap.size) :
    CallsIn Fence.wide 8 Tryz.prog 47 #[.int .i64 T, .pointer (some ⟨ss, 0, none⟩), .pointer (some ⟨yb, 0, none⟩), .pointer (some ⟨xb, 0, none⟩), .pointer (some ⟨cb, 0, none⟩), .pointer (some ⟨hb, 0, none⟩)] W (ChOk D (fun b => b ≠ xa ∧ (R b ∨ D ≤ b)) xa T sp Cs J Jx T done cur W) := by
  have b1 := (Below.refl W.heap.size W).alloc (Nat.le_refl _) (.cells #[.int .i64 T] 3)
  have b2 := b1.alloc b1.size (.cells #[.bool false] 4)
  have hxl : xa < W.heap.size := by
    have := hX.own.lt xa rfl; exact this.2
  have hE2 := hE.move (Kpt.of_all b2)
  have hX2 := hX.move (P := fun _ => True) (Kpt.of_all b2) trivial
  have hsc := hE2.s.cell
  have hyc := hE2.y.cell
  have hxc := hE2.x.cell
  have kp := (Blk.new W #[.int .i64 T] 3).alloc (.cells #[.bool false] 4)
  have kr := newAt' (W.alloc (.cells #[.int .i64 T] 3)) #[.bool false] 4 (g := W.heap.size + 1) (by simp)
  have kpc := kp.cell
  have hsz : ((W.alloc (.cells #[.int .i64 T] 3)).alloc (.cells #[.bool false] 4)).heap.size = W.heap.size + 2 := by simp
  have hat : VcAt T ⟨some ⟨xa, 0, none⟩, T, cur⟩ ((W.alloc (.cells #[.int .i64 T] 3)).alloc (.cells #[.bool false] 4)) := ⟨Flat.of_own (c := T) (t := 3) (base := D) intC_len (by decide) (by show World.ownsRow _ _ _ _ (.slice (some ⟨xa, 0, none⟩) cur.length T) cur.length _; rw [hX2.len]; exact hX2.own), hX2.len⟩
  obtain ⟨fn, tmps, assign, body, hy, hR⟩ := hY 7 done ⟨some ⟨xa, 0, none⟩, T, cur⟩ _ (hJ _ _ _ hj (b2.mono hD)) hat (by omega)
  have htk : subV xa sp Cs T T (cur.take T) = [⟨some ⟨xa, 0, none⟩, T, cur⟩] := by rw [subV_end, List.take_of_length_le (by rw [hX.len]; exact Nat.le_refl _)]
  simp only [vcC, hX2.len] at hy
  refine callsIn_of_wp Tryz.func47 rfl trivial ?_ rfl
  simp only [Tryz.ntmps47, List.size_toArray, List.length_cons, List.length_nil, Nat.reduceAdd, Nat.reduceSub, Array.replicate_succ, Array.replicate_zero, List.push_toArray, List.append_toArray, List.nil_append, List.cons_append]
  clear hX2 hE2 hat
  gi_wp2
  clear hy
  have hk12 : Kpt (fun b => b ≠ xa ∧ (R b ∨ D ≤ b)) W ((W.alloc (.cells #[.int .i64 T] 3)).alloc (.cells #[.bool false] 4)) := Kpt.of_all b2
  have hk12x : Kpt (fun b => b = xa) W ((W.alloc (.cells #[.int .i64 T] 3)).alloc (.cells #[.bool false] 4)) := Kpt.of_all b2
  generalize (W.alloc (.cells #[.int .i64 T] 3)).alloc (.cells #[.bool false] 4) = W2 at *
  refine hR.mono ?_
  clear hR
  rintro e W3 (⟨rfl, hJ3, hk3⟩ | ⟨rfl, hJx3, hk3⟩)
  · have hr3 : Blk W3 (W.heap.size + 1) #[.bool false] 4 := (hk3.blk _ kr.lt (.inr (by omega))).trans kr
    have hrc := hr3.cell
    have hrf := hr3.free 0
    gi_wp2
    have hs3 := hk3.size
    have hkS : ∀ (P : Nat → Prop), ¬ P (W.heap.size + 1) → Kpt P W3 (W3.setCell ⟨W.heap.size + 1, 0, none⟩ (.bool true)) := fun P hP => Kpt.set (p := ⟨W.heap.size + 1, 0, none⟩) hP _
    have hrE := (hr3.set 0 (.bool true)).cell
    refine bodyPost_ret (v := .bool true) (by simp [results, Tryz.results47, go_sem, hrE]) rfl (.inl ⟨rfl, ?_, ⟨cur, ?_, rfl⟩, ?_⟩)
    · rw [htk]
      exact hJ _ _ _ hJ3 ((Below.refl D W3).setCell (p := ⟨W.heap.size + 1, 0, none⟩) (by show D ≤ W.heap.size + 1; omega) _)
    · exact ((hX.move hk12x rfl).move hk3 (.inr hxD)).move (hkS (fun b => b = xa) (by omega)) rfl
    · refine ⟨Nat.le_trans (hk12.trans (hk3.imp (fun b hb => hb.2))).size (by simp), fun b hb hp => ((hkS (fun b' => b' < W.heap.size) (by omega)).blk b (by omega) hb).trans ((hk12.trans (hk3.imp (fun b hb => hb.2))).blk b hb hp), (hkS (fun b' => b' < W.heap.size) (by omega)).os.trans (hk12.trans (hk3.imp (fun b hb => hb.2))).os, (hkS (fun b' => b' < W.heap.size) (by omega)).tape.trans (hk12.trans (hk3.imp (fun b hb => hb.2))).tape, (hkS (fun b' => b' < W.heap.size) (by omega)).output.trans (hk12.trans (hk3.imp (fun b hb => hb.2))).output⟩
  · have hr3 : Blk W3 (W.heap.size + 1) #[.bool false] 4 := (hk3.blk _ kr.lt (.inr (by omega))).trans kr
    have hrc := hr3.cell
    have hrf := hr3.free 0
    gi_wp2
    have hs3 := hk3.size
    have hkS : ∀ (P : Nat → Prop), ¬ P (W.heap.size + 1) → Kpt P W3 (W3.setCell ⟨W.heap.size + 1, 0, none⟩ (.bool false)) := fun P hP => Kpt.set (p := ⟨W.heap.size + 1, 0, none⟩) hP _
    have hrE := (hr3.set 0 (.bool false)).cell
    refine bodyPost_ret (v := .bool false) (by simp [results, Tryz.results47, go_sem, hrE]) rfl (.inr ⟨rfl, ⟨_, _, by rw [htk]; exact List.prefix_refl _, ?_, hJx _ _ _ _ hJx3 (Kx.set (p := ⟨W.heap.size + 1, 0, none⟩) (by show D ≤ W.heap.size + 1; omega) (by show W.heap.size + 1 < W2.heap.size; omega) _)⟩, ?_⟩)
    · omega
    · refine ⟨Nat.le_trans (hk12.trans (hk3.imp (fun b hb => hb.2))).size (by simp), fun b hb hp => ((hkS (fun b' => b' < W.heap.size) (by omega)).blk b (by omega) hb).trans ((hk12.trans (hk3.imp (fun b hb => hb.2))).blk b hb hp), (hkS (fun b' => b' < W.heap.size) (by omega)).os.trans (hk12.trans (hk3.imp (fun b hb => hb.2))).os, (hkS (fun b' => b' < W.heap.size) (by omega)).tape.trans (hk12.trans (hk3.imp (fun b hb => hb.2))).tape, (hkS (fun b' => b' < W.heap.size) (by omega)).output.trans (hk12.trans (hk3.imp (fun b hb => hb.2))).output⟩
end
end Go.Proofs.YtpahcbhikmfamaaGreat
