/- The values of a span that stand for all others: the program's iterator. -/
import Derived.Test.YtpahcbhikmfamaaGreatRM
import Derived.Test.YtpahcbhikmfamaaGreatWQ1
import Derived.Test.YtpahcbhikmfamaaGreatSBDat

namespace Go.Proofs.YtpahcbhikmfamaaGreat
open Go.RowKit Go.Shelf

attribute [local go_sem] Oper.semAt_some

theorem Kpt.fr {P : Nat → Prop} {A B : World} (h : Kpt P A B) : Fr P A B := ⟨h.size, h.blk⟩
def typL (lo hi : Int) (cs : List Int) : List Int := lo :: cs.filter (spanIn lo hi)
theorem typL_take {lo hi : Int} {cs : List Int} {k : Nat} (hk : k < cs.length) (h : spanIn lo hi cs[k] = true) : lo :: (cs.take (k + 1)).filter (spanIn lo hi) = (lo :: (cs.take k).filter (spanIn lo hi)) ++ [cs[k]] := by
  rw [List.take_succ_eq_append_getElem hk, List.filter_append]
  simp [h]
theorem typL_skip {lo hi : Int} {cs : List Int} {k : Nat} (hk : k < cs.length) (h : spanIn lo hi cs[k] = false) : lo :: (cs.take (k + 1)).filter (spanIn lo hi) = lo :: (cs.take k).filter (spanIn lo hi) := by
  rw [List.take_succ_eq_append_getElem hk, List.filter_append]
  simp [h]
theorem typL_pre (lo hi : Int) (cs : List Int) (k : Nat) : lo :: (cs.take k).filter (spanIn lo hi) <+: typL lo hi cs := by
  obtain ⟨t, ht⟩ := (List.take_prefix k cs).filter (spanIn lo hi)
  exact ⟨t, by rw [typL, List.cons_append, ht]⟩
theorem typL_len (lo hi : Int) (cs : List Int) (k : Nat) (hk : k < cs.length) : (lo :: (cs.take k).filter (spanIn lo hi)).length < cs.length + 1 := by
  have := List.length_filter_le (spanIn lo hi) (cs.take k)
  rw [List.length_take] at this
  rw [List.length_cons]
  omega

set_option maxRecDepth 100000 in
set_option maxHeartbeats 4000000 in
theorem typical1_in (n : Nat) (hn : 1 ≤ n) (l sb cb : Nat) (lo hi : Int) (A : Option Addr) (c : Nat) (cs : List Int) (hcs : cs.length ≤ 1000) (Q : Nat → Prop) (hsb : Q sb) (hcb : Q cb) (J Jx : List Int → World → Prop)
    (hY : ∀ pre x W, J pre W → pre.length < cs.length + 1 → YieldAt Fence.wide (n - 1) Tryz.prog l #[.int .i64 x] W fun e W' =>
      (e = .returned (.bool true) ∧ J (pre ++ [x]) W' ∧ Kpt Q W W') ∨ (e = .returned (.bool false) ∧ Jx (pre ++ [x]) W'))
    (W : World) (k1 : Blk W sb #[.int .i64 lo, .int .i64 hi] 54) (k2 : Blk W cb #[.slice A cs.length c] 26) (hA : FlatP 1 intC W Q A cs) (h0 : J [] W) :
    CallsIn Fence.wide n Tryz.prog 64 #[.func (.yield l) #[] #[], .pointer (some ⟨sb, 0, none⟩), .pointer (some ⟨cb, 0, none⟩)] W fun e W' => (∃ v, e = .returned v) ∧
      ((∃ ys, ys = typL lo hi cs ∧ J ys W') ∨ (∃ pre, pre <+: typL lo hi cs ∧ Jx pre W')) := by
  have k1c := k1.cell
  refine callsIn_of_wp Tryz.func64 rfl trivial ?_ rfl
  simp only [Tryz.ntmps64, List.size_toArray, List.length_cons, List.length_nil, Nat.reduceAdd, Nat.reduceSub, Array.replicate_succ, Array.replicate_zero, List.push_toArray, List.append_toArray, List.nil_append, List.cons_append]
  obtain ⟨fn, tmps, assign, body, hy, hR⟩ := hY [] lo W h0 (by simp)
  gi_wp2
  refine hR.mono ?_
  rintro e W1 (⟨rfl, hJ1, hk1⟩ | ⟨rfl, hJx1⟩)
  · have k1w : Blk W1 sb #[.int .i64 lo, .int .i64 hi] 54 := (hk1.blk _ k1.lt hsb).trans k1
    have k2w : Blk W1 cb #[.slice A cs.length c] 26 := (hk1.blk _ k2.lt hcb).trans k2
    have k2c := k2w.cell
    have hAw := hA.move hk1.fr
    clear hR hy k1c k1 k2 hA
    gi_wp2
    gi_loopw [13] (fun ii wr => ∃ k : Nat, k ≤ cs.length ∧ ii = .int .i64 k ∧ J (lo :: (cs.take k).filter (spanIn lo hi)) wr ∧ Kpt Q W1 wr) (fun ii _ => cs.length - (vInt ii).toNat)
    case atStart => exact ⟨0, Nat.zero_le _, rfl, hJ1, Kpt.refl _ _⟩
    case round =>
      obtain ⟨k, hk, rfl, hJs, hkk⟩ := hrel
      have k1r : Blk wr sb #[.int .i64 lo, .int .i64 hi] 54 := (hkk.blk _ k1w.lt hsb).trans k1w
      have k1c := k1r.cell
      by_cases hlt : k < cs.length
      · have hil : (k : Int) < (cs.length : Int) := by omega
        obtain ⟨b, off, rfl, hb, hP, hc⟩ := hAw.move hkk.fr k hlt
        have hc0 : wr.cell? ⟨b, off + k, none⟩ = some (.int .i64 cs[k]) := by have := hc 0 (by omega); simpa [intC] using this
        have hlen := typL_len lo hi cs k hlt
        have hk1 : k + 1 ≤ cs.length := hlt
        cases hin : spanIn lo hi cs[k] with
        | true =>
          have htk := typL_take hlt hin
          have hz : lo < cs[k] ∧ cs[k] ≤ hi := by simpa [spanIn] using hin
          obtain ⟨hz1, hz2⟩ := hz
          clear hc hin
          generalize cs[k] = z at *
          obtain ⟨fn, tmps, assign, body, hy, hR⟩ := hY _ z wr hJs hlen
          gi_wp2
          refine hR.mono ?_
          rintro e W3 (⟨rfl, hJ3, hk3⟩ | ⟨rfl, hJx3⟩)
          · gi_wp2
            go_roundw
            case rel => exact ⟨k + 1, hk1, by go_num, by rw [htk]; exact hJ3, hkk.trans hk3⟩
            case measure => simp [vInt]; omega
          · gi_wp2
            refine bodyPost_ret (results_none rfl _ _ _) rfl ?_
            exact ⟨⟨_, rfl⟩, .inr ⟨_, by rw [← htk]; exact typL_pre lo hi cs (k + 1), hJx3⟩⟩
        | false =>
          have htk := typL_skip hlt hin
          have hz : ¬ (lo < cs[k] ∧ cs[k] ≤ hi) := by simpa [spanIn] using hin
          clear hc hin
          generalize cs[k] = z at *
          by_cases hz1 : lo < z
          · have hz2 : ¬ z ≤ hi := fun h => hz ⟨hz1, h⟩
            gi_wp2
            refine ⟨fun _ h => (by cases h), ?_⟩
            gi_wp2
            go_roundw
            case rel => exact ⟨k + 1, hk1, by go_num, by rw [htk]; exact hJs, hkk⟩
            case measure => simp [vInt]; omega
          · gi_wp2
            refine ⟨fun _ h => (by cases h), ?_⟩
            gi_wp2
            go_roundw
            case rel => exact ⟨k + 1, hk1, by go_num, by rw [htk]; exact hJs, hkk⟩
            case measure => simp [vInt]; omega
      · have hil : ¬ (k : Int) < (cs.length : Int) := by omega
        obtain rfl : k = cs.length := by omega
        gi_wp2
        go_end0
        exact ⟨⟨_, rfl⟩, .inl (by rw [List.take_length] at hJs; exact hJs)⟩
  · gi_wp2
    refine bodyPost_ret (results_none rfl _ _ _) rfl ?_
    exact ⟨⟨_, rfl⟩, .inr ⟨_, typL_pre lo hi cs 0, hJx1⟩⟩
end Go.Proofs.YtpahcbhikmfamaaGreat
