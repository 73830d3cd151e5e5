/- The next digits, by the reference. Written by a program. -/
import Derived.Test.YtijhbcmmoagdmaaSBR2
import Derived.Test.YtijhbcmmoagdmaaRM

namespace Go.Proofs.Ytijhbcmmoagdmaa
open Go.RowKit Go.Maps

def dg (l : List Nat) : Array Value := (l.map fun (k : Nat) => Value.int .i64 (k : Int)).toArray
theorem dg_at {l : List Nat} {i : Nat} (h : i < l.length) : (dg l)[i]? = some (.int .i64 (l[i] : Int)) := by
  unfold dg; simp [h]
theorem dg_set (l : List Nat) (i n : Nat) : (dg l).setIfInBounds i (.int .i64 (n : Int)) = dg (l.set i n) := by
  unfold dg; simp [List.map_set]
theorem nextD_up : ∀ (i : Nat) (ns d e : List Nat), i ≤ ns.length → ns.length = d.length → nextD (ns.drop i) (d.drop i) = (true, e) → nextD ns d = (true, d.take i ++ e)
  | 0, _, _, _, _, _, h => h
  | i + 1, [], _, _, hi, _, _ => by simp at hi
  | i + 1, _ :: _, [], _, _, hl, _ => by simp at hl
  | i + 1, n :: ns, a :: d, e, hi, hl, h => by
    have := nextD_up i ns d e (by simpa using hi) (by simpa using hl) (by simpa using h)
    unfold nextD
    rw [this]
    rfl
theorem nextD_here {ns d z : List Nat} {i : Nat} (hn : i < ns.length) (hd : i < d.length) (h : nextD (ns.drop (i + 1)) (d.drop (i + 1)) = (false, z)) :
    nextD (ns.drop i) (d.drop i) = if d[i] + 1 < ns[i] then (true, (d[i] + 1) :: z) else (false, 0 :: z) := by
  rw [List.drop_eq_getElem_cons hn, List.drop_eq_getElem_cons hd]
  unfold nextD
  rw [h]
theorem mid_at {d z : List Nat} {i : Nat} (hd : i < d.length) : (d.take (i + 1) ++ z)[i]? = some d[i] := by
  rw [List.getElem?_append_left (by rw [List.length_take]; omega), List.getElem?_take]
  simp [hd]
theorem mid_set {d z : List Nat} {i : Nat} (hd : i < d.length) (n : Nat) : (d.take (i + 1) ++ z).set i n = d.take i ++ n :: z := by
  rw [List.take_succ_eq_append_getElem hd, List.append_assoc, List.set_append_right _ _ (by rw [List.length_take]; omega)]
  simp [List.length_take, Nat.min_eq_left (Nat.le_of_lt hd)]
theorem mid_set2 {d z : List Nat} {i : Nat} (hd : i < d.length) (m n : Nat) : (d.take i ++ m :: z).set i n = d.take i ++ n :: z := by
  rw [List.set_append_right _ _ (by rw [List.length_take]; omega)]
  simp [List.length_take, Nat.min_eq_left (Nat.le_of_lt hd)]

/-- The next digits in place. -/
def NextS (w : World) (g : Nat) (t : TypeId) (ns d : List Nat) (e : Ending) (w' : World) : Prop :=
  ∃ b d', e = .returned (.bool b) ∧ nextD ns d = (b, d') ∧ Blk w' g (dg d') t ∧ Kpt (fun x => x ≠ g) w w' ∧ Below g w w'

set_option maxRecDepth 100000 in
set_option maxHeartbeats 8000000 in
theorem next6_any (g : Nat) (t : TypeId) (ns d : List Nat) (LA : Option Addr) (ac lc : Nat) (w : World) (hl : ns.length = d.length) (hT : d.length ≤ 1000) (hd : ∀ k ∈ d, k ≤ 100000) (k1 : Blk w g (dg d) t)
    (Hc : ∀ i (h : i < ns.length), ∃ b off A a, LA = some ⟨b, off, none⟩ ∧ b < w.heap.size ∧ b ≠ g ∧ w.cell? ⟨b, off + i, none⟩ = some (.slice A ns[i] a)) :
    Calls Try.prog 34 #[.slice (some ⟨g, 0, none⟩) d.length ac, .slice LA ns.length lc] w (NextS w g t ns d) := by
  have HC := Lib.hid Hc
  have HD := Lib.hid hd
  have hw0 : IntKind.i64.wrap ((d.length : Int) - 1) = (d.length : Int) - 1 := IntWalk.i64_in _ (by omega)
  clear Hc hd
  rw [hl]
  go_enter Try.func34, Try.ntmps34
  go_wp2_with fail
  go_loopw [5] (fun ii wr => ∃ (j : Nat) (jj : Int) (z : List Nat), j ≤ d.length ∧ ii = .int .i64 jj ∧ Hid (jj = (j : Int) - 1) ∧ Hid (nextD (ns.drop j) (d.drop j) = (false, z)) ∧ Hid (Blk wr g (dg (d.take j ++ z)) t ∧ Kpt (fun x => x ≠ g) w wr ∧ Below g w wr)) (fun ii _ => (vInt ii + 1).toNat)
  case atStart => exact ⟨d.length, _, [], Nat.le_refl _, rfl, Lib.hid rfl, Lib.hid (by rw [← hl, List.drop_length, hl, List.drop_length]; rfl), Lib.hid ⟨by rw [List.take_length, List.append_nil]; exact k1, Kpt.refl _ _, Below.refl _ _⟩⟩
  case round =>
    obtain ⟨j, jj, z, hj, rfl, hJ, hN, hR⟩ := hrel
    by_cases hj0 : j = 0
    · subst hj0
      have hjj : jj = -1 := by have := hJ.out; omega
      subst hjj
      have HV : Hid (nextD ns d = (false, z)) := Lib.hid hN.out
      clear hN hJ
      go_wp2_with fail
      go_ret
      exact ⟨false, z, rfl, HV.out, by simpa using hR.out.1, hR.out.2⟩
    · obtain ⟨i, rfl⟩ : ∃ i, j = i + 1 := ⟨j - 1, by omega⟩
      have hjj : jj = (i : Int) := by have := hJ.out; omega
      subst hjj
      have hlt : i < d.length := by omega
      have hil : (i : Int) < (d.length : Int) := by omega
      have hin : i < ns.length := by omega
      have hge : (0 : Int) ≤ (i : Int) := by omega
      obtain ⟨b, off, A, a, rfl, hb, hbg, c0⟩ := HC.out i hin
      have km := hR.out.1
      have hcl : i < (d.take (i + 1) ++ z).length := by rw [List.length_append, List.length_take]; omega
      have a0 := (km.cell i).trans (dg_at hcl)
      have hgi : (d.take (i + 1) ++ z)[i] = d[i] := by have := mid_at (z := z) hlt; rw [List.getElem?_eq_getElem hcl] at this; exact Option.some.inj this
      rw [hgi] at a0
      have f0 := km.free i
      have hdb := HD.out _ (List.getElem_mem hlt)
      have hw1 : IntKind.i64.wrap ((d[i] : Int) + 1) = (d[i] : Int) + 1 := IntWalk.i64_in _ (by omega)
      have hw2 : IntKind.i64.wrap ((i : Int) - 1) = (i : Int) - 1 := IntWalk.i64_in _ (by omega)
      have ks : Blk (wr.setCell ⟨g, i, none⟩ (.int .i64 ((d[i] : Int) + 1))) g (dg (d.take i ++ (d[i] + 1) :: z)) t := by
        have := km.set i (.int .i64 ((d[i] + 1 : Nat) : Int))
        rw [dg_set, mid_set hlt] at this
        exact this
      have kq : Kpt (fun x => x ≠ g) w (wr.setCell ⟨g, i, none⟩ (.int .i64 ((d[i] : Int) + 1))) := hR.out.2.1.trans (Kpt.set (p := ⟨g, i, none⟩) (fun h => h rfl) _)
      have KB := Lib.hid (hR.out.2.2.setCell (p := ⟨g, i, none⟩) (Nat.le_refl _) (.int .i64 ((d[i] : Int) + 1)))
      have a1 := (ks.cell i)
      have hc2 : i < (d.take i ++ (d[i] + 1) :: z).length := by rw [List.length_append, List.length_take, List.length_cons]; omega
      rw [dg_at hc2, show (d.take i ++ (d[i] + 1) :: z)[i] = d[i] + 1 from by rw [List.getElem_append_right (by rw [List.length_take]; omega)]; simp [List.length_take, Nat.min_eq_left (Nat.le_of_lt hlt)]] at a1
      have f1 := ks.free i
      have c1 := (kq.cell hb hbg).trans c0
      have HT := Lib.hid (nextD_here hin hlt hN.out)
      have KS := Lib.hid ks
      have KQ := Lib.hid kq
      have HU : Hid (∀ x, nextD (ns.drop i) (d.drop i) = (true, x) → nextD ns d = (true, d.take i ++ x)) := Lib.hid (fun x => nextD_up i ns d x (by omega) hl)
      have HZ : Hid (∀ m : Nat, (d.take i ++ m :: z).set i 0 = d.take i ++ 0 :: z) := Lib.hid (fun m => mid_set2 hlt m 0)
      have hcast : ((d[i] + 1 : Nat) : Int) = (d[i] : Int) + 1 := by omega
      rw [hcast] at a1
      clear km ks kq hN hR hJ hgi hcl hc2 hj0 hdb c0 hcast
      generalize d[i] = x at *
      generalize ns[i] = n at *
      go_wp2_with fail
      by_cases hq : (x : Int) + 1 < (n : Int)
      · have HV : Hid (nextD ns d = (true, d.take i ++ (x + 1) :: z)) := Lib.hid (HU.out _ (by rw [HT.out, if_pos (by omega)]))
        clear HT HU
        go_region
        all_goals go_wp2_with fail
        all_goals go_ret
        all_goals exact ⟨true, _, rfl, HV.out, KS.out.drew, KQ.out.trans (Kpt.of_all (Below.refl _ _).drew), KB.out.drew⟩
      · have HV : Hid (nextD (ns.drop i) (d.drop i) = (false, 0 :: z)) := Lib.hid (by rw [HT.out, if_neg (by omega)])
        clear HT HU
        go_region
        all_goals go_wp2_with fail
        all_goals go_roundw
        all_goals first
          | exact ⟨i, (i : Int) - 1, 0 :: z, by omega, by go_num, Lib.hid rfl, HV, Lib.hid ⟨by have := (KS.out.drew).set i (.int .i64 ((0 : Nat) : Int)); rw [dg_set, HZ.out] at this; exact this, (KQ.out.trans (Kpt.of_all (Below.refl _ _).drew)).trans (Kpt.set (p := ⟨g, i, none⟩) (fun h => h rfl) _), KB.out.drew.setCell (p := ⟨g, i, none⟩) (Nat.le_refl _) _⟩⟩
          | (simp [vInt]; done)
          | (simp [vInt]; omega)
end Go.Proofs.Ytijhbcmmoagdmaa
