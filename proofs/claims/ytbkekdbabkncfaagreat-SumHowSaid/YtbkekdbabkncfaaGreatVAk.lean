/- What the laws of audits ask first. Written by vak.py. -/
import Derived.Test.YtbkekdbabkncfaaGreatURef6
import Derived.Test.YtbkekdbabkncfaaGreatURef5
import Derived.Test.YtbkekdbabkncfaaGreatVAl

namespace Go.Proofs.YtbkekdbabkncfaaGreat
open Go.RowKit Go.Maps

theorem ques_one {W0 : World} {b : Nat} {B : Nat} {wh : List Whe} {col clip step : Int} {W : Option Addr} {wk : Nat} (h : Blk W0 b #[.slice W wh.length wk, .int .i64 col, .int .i64 clip, .int .i64 step] 25) (hb : b < B) (hq : WhesAt W0 B W wh) : QuesAt W0 B (some ⟨b, 0, none⟩) [⟨⟨wh, col, clip, step⟩, W, wk⟩] :=
  ⟨fun k hk => by
    obtain rfl : k = 0 := by simpa using hk
    exact ⟨b, 0, rfl, hb, fun i _ => by simp only [Nat.zero_add, Nat.zero_mul]; exact (h.cell i).trans (by simp [queC])⟩, fun x hx => by rw [List.mem_singleton] at hx; subst hx; exact hq⟩
def askOk (columns : Int) (l : List SubD) (q : QueD) : Bool := !grtB l [q] && (tabB columns (l.map SubD.v) && queB columns q.v)
theorem WhesAt.lat {w w' : World} {A : Option Addr} {l : List Whe} (h : WhesAt w w.heap.size A l) (hb : Below w.heap.size w w') : WhesAt w' w'.heap.size A l := Flat.later h hb
set_option maxRecDepth 100000 in
set_option maxHeartbeats 8000000 in
theorem asks_any (columns : Int) (l : List SubD) (A : Option Addr) (c : Nat) (wh : List Whe) (col clip step : Int) (W : Option Addr) (wk : Nat) (w : World) (h : SubsAt w w.heap.size A l) (hm : ∀ x ∈ l, x.v.vals.length ≤ maxLen) (hq : WhesAt w w.heap.size W wh) (hwl : wh.length ≤ maxLen) :
    Calls Tryz.prog 31 #[.int .i64 columns, .slice A l.length c, .agg #[.slice W wh.length wk, .int .i64 col, .int .i64 clip, .int .i64 step]] w fun e w' => e = .returned (.bool (askOk columns l ⟨⟨wh, col, clip, step⟩, W, wk⟩)) ∧ Below w.heap.size w w' := by
  have b1 := (Below.refl w.heap.size w).alloc (Nat.le_refl _) (.cells #[.slice W wh.length wk, .int .i64 col, .int .i64 clip, .int .i64 step] 25)
  have k1 := Blk.new w #[.slice W wh.length wk, .int .i64 col, .int .i64 clip, .int .i64 step] 25
  have k1c := k1.cell
  have b2 := b1.alloc b1.size (.cells #[.slice W wh.length wk, .int .i64 col, .int .i64 clip, .int .i64 step] 25)
  have n2 := newAt' (w.alloc (.cells #[.slice W wh.length wk, .int .i64 col, .int .i64 clip, .int .i64 step] 25)) #[.slice W wh.length wk, .int .i64 col, .int .i64 clip, .int .i64 step] 25 (g := w.heap.size + 1) (by simp)
  have kk := k1.alloc (.cells #[.slice W wh.length wk, .int .i64 col, .int .i64 clip, .int .i64 step] 25)
  have HGr := Lib.hid (great10_any l A c [⟨⟨wh, col, clip, step⟩, W, wk⟩] (some ⟨w.heap.size + 1, 0, none⟩) 1 ((w.alloc (.cells #[.slice W wh.length wk, .int .i64 col, .int .i64 clip, .int .i64 step] 25)).alloc (.cells #[.slice W wh.length wk, .int .i64 col, .int .i64 clip, .int .i64 step] 25)) (h.later b2) (ques_one n2 n2.lt (hq.lat b2)) ⟨hm, fun x hx => by rw [List.mem_singleton] at hx; subst hx; exact hwl⟩)
  change Hid (Calls _ _ #[_, .slice _ 1 1] _ _) at HGr
  unfold askOk
  cases hg : grtB l [⟨⟨wh, col, clip, step⟩, W, wk⟩] with
  | true =>
    rw [hg] at HGr
    clear h hm hq hg n2
    go_enter Tryz.func31, Tryz.ntmps31
    go_wp2_with (first
      | (go_at_call 23; (with_reducible refine (HGr.out).mono ?_); rintro e w1 ⟨rfl, h1⟩; have b3 := b2.trans (h1.mono b2.size); have k3 := kk.below h1 kk.lt; have k3c := k3.cell))
    go_ret
    exact ⟨rfl, b3⟩
  | false =>
    rw [hg] at HGr
    obtain ⟨hl24, _, hv10, hw10⟩ := grt_parts hg
    have hw10' : wh.length ≤ 10 := hw10 0 (by simp)
    have HC := Lib.hid (fun (W' : World) (hb : Below w.heap.size w W') => check10_any columns l A c W' (h.later hb) hl24)
    cases ht : tabB columns (l.map SubD.v) with
    | false =>
      rw [show tabE columns (l.map SubD.v) = 100 from by unfold tabE; rw [ht]; rfl] at HC
      clear h hm hq hg n2 hv10 hw10
      go_enter Tryz.func31, Tryz.ntmps31
      go_wp2_with (first
        | (go_at_call 23; (with_reducible refine (HGr.out).mono ?_); rintro e w1 ⟨rfl, h1⟩; have b3 := b2.trans (h1.mono b2.size); have k3 := kk.below h1 kk.lt; have k3c := k3.cell)
        | (go_at_call 57; (with_reducible refine (HC.out _ b3).mono ?_); rintro e w4 ⟨rfl, h4⟩; have b4 := b3.trans (h4.mono b3.size); have k4 := k3.below h4 k3.lt; have k4c := k4.cell))
      go_ret
      exact ⟨rfl, b4⟩
    | true =>
      rw [show tabE columns (l.map SubD.v) = 0 from by unfold tabE; rw [ht]; rfl] at HC
      have hcol := (ask_parts ht).1
      have HQn := Lib.hid (fun (W' : World) (hb : Below w.heap.size w W') => question10_any columns wh col clip step W wk W' (hq.lat hb) (by omega) (by omega))
      clear h hm hq hg n2 hv10 hw10
      simp only [Bool.not_false, Bool.true_and]
      generalize queB columns ⟨wh, col, clip, step⟩ = qb at *
      go_enter Tryz.func31, Tryz.ntmps31
      go_wp2_with (first
        | (go_at_call 23; (with_reducible refine (HGr.out).mono ?_); rintro e w1 ⟨rfl, h1⟩; have b3 := b2.trans (h1.mono b2.size); have k3 := kk.below h1 kk.lt; have k3c := k3.cell)
        | (go_at_call 57; (with_reducible refine (HC.out _ b3).mono ?_); rintro e w4 ⟨rfl, h4⟩; have b4 := b3.trans (h4.mono b3.size); have k4 := k3.below h4 k3.lt; have k4c := k4.cell)
        | (go_at_call 58; (with_reducible refine (HQn.out _ b4).mono ?_); rintro e w5 ⟨rfl, h5⟩; have b5 := b4.trans (h5.mono b4.size)))
      go_ret
      exact ⟨rfl, b5⟩
end Go.Proofs.YtbkekdbabkncfaaGreat
