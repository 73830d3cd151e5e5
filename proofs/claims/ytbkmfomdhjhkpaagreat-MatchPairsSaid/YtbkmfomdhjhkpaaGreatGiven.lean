/- Given names that are some of others, in their order, and how names agree: the reference's. -/
import Derived.Test.YtbkmfomdhjhkpaaGreatNum
namespace Go.Proofs.YtbkmfomdhjhkpaaGreat
open Go.RowKit

/-- All words have from 1 to 20 letters. -/
def Wordy (l : List ByteArray) : Prop := ∀ x ∈ l, 0 < x.size ∧ x.size ≤ 20
theorem Wordy.at {l : List ByteArray} (h : Wordy l) {i : Nat} (hi : i < l.length) : 0 < l[i].size ∧ l[i].size ≤ 20 := h _ (List.getElem_mem hi)
theorem Wordy.tail {l : List ByteArray} (h : Wordy l) : Wordy l.tail := fun x hx => h x (List.mem_of_mem_tail hx)

theorem keepG {w0 W w1 : World} {b b' o o' : Nat} {x y : Value} (hb : b < w0.heap.size) (hb' : b' < w0.heap.size) (h : Below W.heap.size W w1) (hS : W.cell? ⟨b, o, none⟩ = some x ∧ W.cell? ⟨b', o', none⟩ = some y ∧ Below w0.heap.size w0 W) :
    w1.cell? ⟨b, o, none⟩ = some x ∧ w1.cell? ⟨b', o', none⟩ = some y ∧ Below w0.heap.size w0 w1 := by
  have hz := hS.2.2.size
  exact ⟨(h.cell (p := ⟨b, o, none⟩) (by show b < _; omega)).trans hS.1, (h.cell (p := ⟨b', o', none⟩) (by show b' < _; omega)).trans hS.2.1, hS.2.2.trans (h.mono hz)⟩

set_option maxRecDepth 100000 in
set_option maxHeartbeats 2000000 in
theorem given_any (l m : List ByteArray) (A A' : Option Addr) (c c' : Nat) (n : Int) (w : World) (hA : Strs w w.heap.size A l) (hA' : Strs w w.heap.size A' m) (hl : l.length ≤ maxLen) (hm : m.length ≤ maxLen) (wl : Wordy l) (wm : Wordy m) :
    Calls Tryz.prog 89 #[.slice A l.length c, .slice A' m.length c', .int .i64 n] w fun e w' => e = .returned (.bool (subs (fitL n) l m)) ∧ Below w.heap.size w w' := by
  unfold maxLen at hl hm
  go_enter Tryz.func89, Tryz.ntmps89
  go_wp2_with fail
  go_loopw [7, 8] (fun jj ii wr => ∃ i j : Nat, i ≤ l.length ∧ j ≤ m.length ∧ ii = .int .i64 i ∧ jj = .int .i64 j ∧ Hid (subs (fitL n) l m = subs (fitL n) (l.drop i) (m.drop j)) ∧ Below w.heap.size w wr) (fun _ ii _ => l.length - (intOf ii).toNat)
  case atStart => exact ⟨0, 0, Nat.zero_le _, Nat.zero_le _, rfl, rfl, Lib.hid (by simp), Below.refl _ _⟩
  case round =>
    obtain ⟨i, j, hi, hj, rfl, rfl, hsub, hbel⟩ := hrel
    by_cases hlt : i < l.length
    · have hil : (i : Int) < (l.length : Int) := by omega
      go_wp2_with fail
      obtain ⟨w1, rfl⟩ : ∃ w1 : World, w1 = wr := ⟨_, rfl⟩
      go_loopw [7] (fun jj wi => ∃ j : Nat, j ≤ m.length ∧ jj = .int .i64 j ∧ Hid (subs (fitL n) l m = subs (fitL n) (l.drop i) (m.drop j)) ∧ Below w.heap.size w wi) (fun jj _ => m.length - (intOf jj).toNat)
      case atStart => exact ⟨j, hj, rfl, hsub, hbel⟩
      case round =>
        clear hsub hbel hj
        obtain ⟨j, hj, rfl, hsub, hbel⟩ := hrel
        by_cases hjm : j < m.length
        · have hjl : (j : Int) < (m.length : Int) := by omega
          have hje : ((j : Int) == (m.length : Int)) = false := by simp; omega
          obtain ⟨b, off, rfl, hb, hc, _⟩ := (hA.below hbel) i hlt
          obtain ⟨b', off', rfl, hb', hc', _⟩ := (hA'.below hbel) j hjm
          have hx := wl.at hlt
          have hy := wm.at hjm
          have HF := Lib.hid (subs_fit (fitL n) l m i j hlt hjm)
          have HS := Lib.hid (subs_skip (fitL n) l m i j hlt hjm)
          generalize l[i] = x at hc hx HF HS
          generalize m[j] = y at hc' hy HF HS
          cases hs : sameW x y with
          | true =>
            have hf : fitL n x y = true := by simp [fitL, hs]
            have Hf := Lib.hid hf
            have hcon := refSame_any x y
            rw [hs] at hcon
            have Hcon := Lib.hid hcon
            clear hf hs hcon
            go_wp2
            go_quiet ((go_at_call 106; refine Calls.quiet_of (Hcon.out _ hx.1 hy.1)))
            go_wp2
            go_roundw
            case rel => exact ⟨i + 1, j + 1, by omega, by omega, by go_num, by go_num, Lib.hid (hsub.out.trans (HF.out Hf.out)), below_drewN hbel _⟩
            case measure => simp [intOf]; omega
          | false =>
            have hcon := refSame_any x y
            rw [hs] at hcon
            have Hcon := Lib.hid hcon
            clear hcon
            cases hn : decide (n < 0) with
            | true =>
              have hf : fitL n x y = false := by
                have := of_decide_eq_true hn
                simp [fitL, hs]; omega
              have Hf := Lib.hid hf
              clear hf hs
              go_wp2
              go_quiet ((go_at_call 106; refine Calls.quiet_of (Hcon.out _ hx.1 hy.1)))
              go_wp2
              go_roundw
              case rel => exact ⟨j + 1, by omega, by go_num, Lib.hid (hsub.out.trans (HS.out Hf.out)), below_drewN hbel _⟩
              case measure => simp [intOf]; omega
            | false =>
              have hn0 : 0 ≤ n := by have := of_decide_eq_false hn; omega
              have hwz := hbel.size
              have nb : b < wr.heap.size := by omega
              have nb' : b' < wr.heap.size := by omega
              have hbd : Below wr.heap.size wr wr.drew := (Below.refl _ _).drew
              have hbd2 : ∀ k, Below wr.heap.size wr (wr.drewN k) := fun k => below_drewN (Below.refl _ _) k
              have Hed := Lib.hid (fun W => refEdits_any x y W hx.2 hy.2)
              have HL : Hid (fitL n x y = decide ((lev x.data.toList y.data.toList : Int) ≤ n)) := Lib.hid (by simp [fitL, hs, hn0])
              clear hs
              generalize (lev x.data.toList y.data.toList : Int) = v at Hed HL
              cases hv : decide (n < v) with
              | true =>
                have hf : Hid (fitL n x y = false) := Lib.hid (by rw [HL.out]; have := of_decide_eq_true hv; simp; omega)
                go_wp2
                go_region_held3 (fun w' => w'.cell? ⟨b, off + i, none⟩ = some (.string x) ∧ w'.cell? ⟨b', off' + j, none⟩ = some (.string y) ∧ Below wr.heap.size wr w') (first | (simp [*]; done) | (refine keepG nb nb' (by assumption) ?_; first | assumption | (simp [*]; done)))
                  (first
                    | (go_at_call 106; refine (Hcon.out _ hx.1 hy.1).mono ?_; rintro e wa ⟨rfl, na, rfl⟩)
                    | (go_at_call 90; refine (Hed.out _).mono ?_; rintro e wb ⟨rfl, hbb⟩))
                have hfin : Below wr.heap.size wr wb := by first | assumption | (simp [*]; done)
                go_wp2
                go_roundw
                case rel => exact ⟨j + 1, by omega, by go_num, Lib.hid (hsub.out.trans (HS.out hf.out)), hbel.trans (hfin.mono hwz)⟩
                case measure => simp [intOf]; omega
              | false =>
                have hf : Hid (fitL n x y = true) := Lib.hid (by rw [HL.out]; have := of_decide_eq_false hv; simp; omega)
                go_wp2
                go_region_held3 (fun w' => w'.cell? ⟨b, off + i, none⟩ = some (.string x) ∧ w'.cell? ⟨b', off' + j, none⟩ = some (.string y) ∧ Below wr.heap.size wr w') (first | (simp [*]; done) | (refine keepG nb nb' (by assumption) ?_; first | assumption | (simp [*]; done)))
                  (first
                    | (go_at_call 106; refine (Hcon.out _ hx.1 hy.1).mono ?_; rintro e wa ⟨rfl, na, rfl⟩)
                    | (go_at_call 90; refine (Hed.out _).mono ?_; rintro e wb ⟨rfl, hbb⟩))
                have hfin : Below wr.heap.size wr wb := by first | assumption | (simp [*]; done)
                go_wp2
                go_roundw
                case rel => exact ⟨i + 1, j + 1, by omega, by omega, by go_num, by go_num, Lib.hid (hsub.out.trans (HF.out hf.out)), hbel.trans (hfin.mono hwz)⟩
                case measure => simp [intOf]; omega
        · have hjl : ¬ (j : Int) < (m.length : Int) := by omega
          have hje : ((j : Int) == (m.length : Int)) = true := by simp; omega
          have hout := Lib.hid (hsub.out.trans (subs_out (fitL n) l m i j hlt hjm))
          go_wp2
          go_quiet (fail)
          go_wp2
          go_ret
          exact ⟨ret_bool hout.out.symm, below_drewN hbel _⟩
    · have hil : ¬ (i : Int) < (l.length : Int) := by omega
      have hout := Lib.hid (hsub.out.trans (subs_none (fitL n) l (m.drop j) i hlt))
      go_wp2
      go_ret
      exact ⟨ret_bool hout.out.symm, hbel⟩

end Go.Proofs.YtbkmfomdhjhkpaaGreat
