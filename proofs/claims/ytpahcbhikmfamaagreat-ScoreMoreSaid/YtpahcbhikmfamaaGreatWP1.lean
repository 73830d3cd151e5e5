/- Whether a model is larger than the statements look at. Written by a program. -/
import Derived.Test.YtpahcbhikmfamaaGreatRExSP1
import Derived.Test.YtpahcbhikmfamaaGreatRP2
import Derived.Test.YtpahcbhikmfamaaGreatSRef4
import Derived.StillTailTactics

namespace Go.Proofs.YtpahcbhikmfamaaGreat
open Go.RowKit Go.Maps

def sclLeB (s : SclD) : Bool := decide (s.v.cuts.length ≤ 10) && decide (s.v.pts.length ≤ 12)
def crdLeB (c : CrdD) : Bool := decide (c.scales.length ≤ 10) && c.scales.all sclLeB
def treLeB (t : TreD) : Bool := decide (t.v.nodes.length ≤ 20)
def mdlLeB (m : MdlD) : Bool := decide (m.cards.length ≤ 6) && decide (m.trees.length ≤ 6) && m.cards.all crdLeB && m.trees.all treLeB
theorem mdlLe_of {m : MdlD} (h : mdlLeB m = true) : MdlLe m := by
  unfold mdlLeB at h
  simp only [Bool.and_eq_true, decide_eq_true_eq, List.all_eq_true] at h
  obtain ⟨⟨⟨h1, h2⟩, h3⟩, h4⟩ := h
  refine ⟨h1, h2, fun c hc => ?_, fun c hc s hs => ?_, fun t ht => ?_⟩
  · have := h3 c hc
    unfold crdLeB at this
    simp only [Bool.and_eq_true, decide_eq_true_eq] at this
    exact this.1
  · have := h3 c hc
    unfold crdLeB at this
    simp only [Bool.and_eq_true, decide_eq_true_eq, List.all_eq_true] at this
    have := this.2 s hs
    unfold sclLeB at this
    simp only [Bool.and_eq_true, decide_eq_true_eq] at this
    exact ⟨this.1, this.2⟩
  · have := h4 t ht
    unfold treLeB at this
    simpa using this
theorem allG_stop {α : Type} {p : α → Bool} {l : List α} {i : Nat} (hi : i < l.length) (h : p l[i] = false) : l.all p = false := by
  cases hb : l.all p with
  | false => rfl
  | true => rw [List.all_eq_true.1 hb _ (List.getElem_mem hi)] at h; cases h
theorem allG_next {α : Type} {p : α → Bool} {l : List α} {i : Nat} (hi : i < l.length) (h : (l.take i).all p = true) (hv : p l[i] = true) : (l.take (i + 1)).all p = true := by
  rw [List.take_succ_eq_append_getElem hi, List.all_append, h]; simp [hv]

set_option maxRecDepth 100000 in
set_option maxHeartbeats 8000000 in
theorem great6_all (traits need : Int) (cl : List CrdD) (tl : List TreD) (C T : Option Addr) (c t : Nat) (w : World) (h : MdlAt w w.heap.size ⟨traits, cl, C, c, tl, T, t, need⟩) :
    Calls Tryz.prog 15 #[.agg #[.int .i64 traits, .slice C cl.length c, .slice T tl.length t, .int .i64 need]] w fun e w' => e = .returned (.bool (!mdlLeB ⟨traits, cl, C, c, tl, T, t, need⟩)) ∧ Below w.heap.size w w' := by
  have b1 := (Below.refl w.heap.size w).alloc (Nat.le_refl _) (.cells #[.int .i64 traits, .slice C cl.length c, .slice T tl.length t, .int .i64 need] 25)
  have k1 := Blk.new w #[.int .i64 traits, .slice C cl.length c, .slice T tl.length t, .int .i64 need] 25
  have k1c := k1.cell
  have h1 := h.later b1
  have HD : Hid ((!mdlLeB ⟨traits, cl, C, c, tl, T, t, need⟩) = !(decide (cl.length ≤ 6) && decide (tl.length ≤ 6) && cl.all crdLeB && tl.all treLeB)) := Lib.hid rfl
  clear h
  generalize (!mdlLeB ⟨traits, cl, C, c, tl, T, t, need⟩) = V at *
  by_cases q1 : cl.length ≤ 6
  · have n1 : ¬ (6 : Int) < (cl.length : Int) := by omega
    by_cases q2 : tl.length ≤ 6
    · have n2 : ¬ (6 : Int) < (tl.length : Int) := by omega
      have HE : Hid (V = !(cl.all crdLeB && tl.all treLeB)) := Lib.hid (by rw [HD.out, decide_eq_true q1, decide_eq_true q2]; rfl)
      clear HD
      go_enter Tryz.func15, Tryz.ntmps15
      go_wp2_with fail
      generalize hW1 : w.alloc (.cells #[.int .i64 traits, .slice C cl.length c, .slice T tl.length t, .int .i64 need] 25) = W1 at *
      clear hW1
      go_loopw [3] (fun ii wr => ∃ i : Nat, i ≤ cl.length ∧ ii = .int .i64 i ∧ Hid ((cl.take i).all crdLeB = true) ∧ W1 = wr) (fun ii _ => cl.length - (vInt ii).toNat)
      case atStart => exact ⟨0, Nat.zero_le _, rfl, Lib.hid (by simp), by first | rfl | trivial⟩
      case round =>
        obtain ⟨i, hi, rfl, hR, rfl⟩ := hrel
        by_cases hlt : i < cl.length
        · have hil : (i : Int) < (cl.length : Int) := by omega
          obtain ⟨b, off, rfl, hb, c0, c1, c2⟩ := crds_at h1.cards.row hlt
          have hmem := List.getElem_mem hlt
          have hsc := h1.cards.each _ hmem
          have HX : Hid (crdLeB cl[i] = false → V = true) := Lib.hid (fun e => by rw [HE.out, allG_stop hlt e]; rfl)
          have HN : Hid (crdLeB cl[i] = true → (cl.take (i + 1)).all crdLeB = true) := Lib.hid (fun e => allG_next hlt hR.out e)
          have HCr : Hid (crdLeB cl[i] = (decide (cl[i].scales.length ≤ 10) && cl[i].scales.all sclLeB)) := Lib.hid rfl
          clear hR hmem
          generalize cl[i] = y at *
          obtain ⟨wt, base, l, S, s⟩ := y
          dsimp only at *
          by_cases q3 : l.length ≤ 10
          · have n3 : ¬ (10 : Int) < (l.length : Int) := by omega
            go_wp2_with fail
            go_loopw [4] (fun ii wr => ∃ j : Nat, j ≤ l.length ∧ ii = .int .i64 j ∧ Hid ((l.take j).all sclLeB = true) ∧ W1 = wr) (fun ii _ => l.length - (vInt ii).toNat)
            case atStart => exact ⟨0, Nat.zero_le _, rfl, Lib.hid (by simp), by first | rfl | trivial⟩
            case round =>
              obtain ⟨j, hj, rfl, hR2, rfl⟩ := hrel
              by_cases hlt2 : j < l.length
              · have hjl : (j : Int) < (l.length : Int) := by omega
                obtain ⟨b2, off2, rfl, hb2, e0, e1, e2⟩ := scls_at hsc.row hlt2
                have HX2 : Hid (sclLeB l[j] = false → V = true) := Lib.hid (fun e => HX.out (by rw [HCr.out, allG_stop hlt2 e, Bool.and_false]))
                have HN2 : Hid (sclLeB l[j] = true → (l.take (j + 1)).all sclLeB = true) := Lib.hid (fun e => allG_next hlt2 hR2.out e)
                have HSc : Hid (sclLeB l[j] = (decide (l[j].v.cuts.length ≤ 10) && decide (l[j].v.pts.length ≤ 12))) := Lib.hid rfl
                clear hR2
                generalize l[j] = z at *
                by_cases q4 : z.v.cuts.length ≤ 10
                · have n4 : ¬ (10 : Int) < (z.v.cuts.length : Int) := by omega
                  by_cases q5 : z.v.pts.length ≤ 12
                  · have n5 : ¬ (12 : Int) < (z.v.pts.length : Int) := by omega
                    have HJ := Lib.hid (HN2.out (by rw [HSc.out, decide_eq_true q4, decide_eq_true q5]; rfl))
                    clear HX2 HN2 HSc
                    go_wp2_with fail
                    go_roundw
                    case rel => exact ⟨j + 1, by omega, by go_num, HJ, by first | rfl | trivial⟩
                    case measure => simp [vInt]; omega
                  · have n5 : (12 : Int) < (z.v.pts.length : Int) := by omega
                    have Hv : Hid (V = true) := Lib.hid (HX2.out (by rw [HSc.out, decide_eq_false q5, Bool.and_false]))
                    clear HX2 HN2 HSc
                    go_wp2_with fail
                    go_ret
                    exact ⟨by rw [Hv.out]; rfl, b1⟩
                · have n4 : (10 : Int) < (z.v.cuts.length : Int) := by omega
                  have Hv : Hid (V = true) := Lib.hid (HX2.out (by rw [HSc.out, decide_eq_false q4]; rfl))
                  clear HX2 HN2 HSc
                  go_wp2_with fail
                  go_ret
                  exact ⟨by rw [Hv.out]; rfl, b1⟩
              · have hjl : ¬ (j : Int) < (l.length : Int) := by omega
                obtain rfl : j = l.length := by omega
                have hA := hR2.out
                rw [List.take_length] at hA
                have HJ := Lib.hid (HN.out (by rw [HCr.out, decide_eq_true q3, hA]; rfl))
                clear HX HN HCr hR2 hA
                go_wp2_with fail
                go_roundw
                case rel => exact ⟨i + 1, by omega, by go_num, HJ, by first | rfl | trivial⟩
                case measure => simp [vInt]; omega
          · have n3 : (10 : Int) < (l.length : Int) := by omega
            have Hv : Hid (V = true) := Lib.hid (HX.out (by rw [HCr.out, decide_eq_false q3]; rfl))
            clear HX HN HCr
            go_wp2_with fail
            go_ret
            exact ⟨by rw [Hv.out]; rfl, b1⟩
        · have hil : ¬ (i : Int) < (cl.length : Int) := by omega
          obtain rfl : i = cl.length := by omega
          have hA := hR.out
          rw [List.take_length] at hA
          have HE2 : Hid (V = !(tl.all treLeB)) := Lib.hid (by rw [HE.out, hA]; rfl)
          clear hR hA HE
          go_wp2_with fail
          go_loopw [5] (fun ii wr => ∃ i : Nat, i ≤ tl.length ∧ ii = .int .i64 i ∧ Hid ((tl.take i).all treLeB = true) ∧ W1 = wr) (fun ii _ => tl.length - (vInt ii).toNat)
          case atStart => exact ⟨0, Nat.zero_le _, rfl, Lib.hid (by simp), by first | rfl | trivial⟩
          case round =>
            obtain ⟨i, hi, rfl, hR, rfl⟩ := hrel
            by_cases hlt : i < tl.length
            · have hil : (i : Int) < (tl.length : Int) := by omega
              obtain ⟨b, off, rfl, hb, c0, c1⟩ := tres_at h1.trees.row hlt
              have HX : Hid (treLeB tl[i] = false → V = true) := Lib.hid (fun e => by rw [HE2.out, allG_stop hlt e]; rfl)
              have HN : Hid (treLeB tl[i] = true → (tl.take (i + 1)).all treLeB = true) := Lib.hid (fun e => allG_next hlt hR.out e)
              have HCr : Hid (treLeB tl[i] = decide (tl[i].v.nodes.length ≤ 20)) := Lib.hid rfl
              clear hR
              generalize tl[i] = y at *
              by_cases q3 : y.v.nodes.length ≤ 20
              · have n3 : ¬ (20 : Int) < (y.v.nodes.length : Int) := by omega
                have HJ := Lib.hid (HN.out (by rw [HCr.out, decide_eq_true q3]))
                clear HX HN HCr
                go_wp2_with fail
                go_roundw
                case rel => exact ⟨i + 1, by omega, by go_num, HJ, by first | rfl | trivial⟩
                case measure => simp [vInt]; omega
              · have n3 : (20 : Int) < (y.v.nodes.length : Int) := by omega
                have Hv : Hid (V = true) := Lib.hid (HX.out (by rw [HCr.out, decide_eq_false q3]))
                clear HX HN HCr
                go_wp2_with fail
                go_ret
                exact ⟨by rw [Hv.out]; rfl, b1⟩
            · have hil : ¬ (i : Int) < (tl.length : Int) := by omega
              obtain rfl : i = tl.length := by omega
              have hA := hR.out
              rw [List.take_length] at hA
              have Hv : Hid (V = false) := Lib.hid (by rw [HE2.out, hA]; rfl)
              clear hR hA HE2
              go_wp2_with fail
              go_ret
              exact ⟨by rw [Hv.out]; rfl, b1⟩
    · have n2 : (6 : Int) < (tl.length : Int) := by omega
      have Hv : Hid (V = true) := Lib.hid (by rw [HD.out, decide_eq_false q2]; simp)
      clear HD h1
      go_enter Tryz.func15, Tryz.ntmps15
      go_wp2_with fail
      go_ret
      exact ⟨by rw [Hv.out]; rfl, b1⟩
  · have n1 : (6 : Int) < (cl.length : Int) := by omega
    have Hv : Hid (V = true) := Lib.hid (by rw [HD.out, decide_eq_false q1]; simp)
    clear HD h1
    go_enter Tryz.func15, Tryz.ntmps15
    go_wp2_with fail
    go_ret
    exact ⟨by rw [Hv.out]; rfl, b1⟩
end Go.Proofs.YtpahcbhikmfamaaGreat

namespace Go.Proofs.YtpahcbhikmfamaaGreat
open Go.RowKit Go.Maps

/-- What the arithmetic of the cut comes to. -/
structure CutFit (lo hi a d : Int) : Prop where
  w1 : IntKind.i64.wrap (hi - lo) = hi - lo
  w2 : IntKind.i64.wrap (hi - lo + 1) = hi - lo + 1
  w3 : IntKind.i64.wrap a = a
  nz : (hi - lo + 1 == 0) = false
  nz' : ¬ hi - lo + 1 = 0
  md : a.tmod (hi - lo + 1) = d
  w4 : IntKind.i64.wrap d = d
  w5 : IntKind.i64.wrap (lo + d) = lo + d
  w6 : IntKind.i64.wrap (lo + d + 1) = lo + d + 1
  d0 : 0 ≤ d
  d1 : d ≤ hi - lo
theorem cutFit {lo hi a : Int} (h0 : 0 ≤ lo) (h1 : lo ≤ hi) (hm : hi ≤ 1000000) (ha : 0 ≤ a ∧ a < 4294967296) : ∃ d, CutFit lo hi a d := by
  have h2 := Int.emod_nonneg a (b := hi - lo + 1) (by omega)
  have h3 := Int.emod_lt_of_pos a (b := hi - lo + 1) (by omega)
  exact ⟨a % (hi - lo + 1), IntWalk.i64_in _ (by omega), IntWalk.i64_in _ (by omega), IntWalk.i64_in _ (by omega), beq_eq_false_iff_ne.2 (by omega), by omega, Int.tmod_eq_emod_of_nonneg ha.1, IntWalk.i64_in _ (by omega), IntWalk.i64_in _ (by omega), IntWalk.i64_in _ (by omega), by omega, by omega⟩
theorem spnB_no {s : Spn} (h : spnB s = false) : s.lo < 0 ∨ (¬ s.lo < 0 ∧ s.hi < s.lo) ∨ (¬ s.lo < 0 ∧ ¬ s.hi < s.lo ∧ 1000000 < s.hi) := by
  rcases Decidable.em (s.lo < 0) with h1 | h1
  · exact .inl h1
  · rcases Decidable.em (s.hi < s.lo) with h2 | h2
    · exact .inr (.inl ⟨h1, h2⟩)
    · rcases Decidable.em (1000000 < s.hi) with h3 | h3
      · exact .inr (.inr ⟨h1, h2, h3⟩)
      · exfalso
        have : spnB s = true := by unfold spnB; simp only [Bool.and_eq_true, inN_iff]; omega
        rw [this] at h; cases h
theorem spnB_yes {s : Spn} (h : spnB s = true) : 0 ≤ s.lo ∧ s.lo ≤ s.hi ∧ s.hi ≤ 1000000 := by
  unfold spnB at h; simp only [Bool.and_eq_true, inN_iff] at h; omega
def u32C (x : Int) : List Value := [.int .u32 x]
theorem u32C_len (x : Int) : (u32C x).length = 1 := rfl
abbrev U32At (w : World) (B : Nat) (A : Option Addr) (l : List Int) : Prop := Flat 1 u32C w B A l
/-! Exactly known values, and values that are known better. -/
def justS (y : List Int) : List Spn := y.map fun n => ⟨n, n⟩
theorem justS_getD {y : List Int} {k : Nat} (hk : k < y.length) : (justS y).getD k default = ⟨y.getD k 0, y.getD k 0⟩ := by
  unfold justS
  rw [getD_lt _ _ (by simpa using hk), getD_lt _ _ hk, List.getElem_map]
end Go.Proofs.YtpahcbhikmfamaaGreat

namespace Go.Proofs.YtpahcbhikmfamaaGreat
open Go.RowKit Go.Maps

/-- The number with an index, which goes round. -/
def atL (l : List Int) (i : Int) : Int := if l.length = 0 then 0 else l.getD (i % (l.length : Int)).toNat 0
theorem atL_bd {l : List Int} (h : ∀ z ∈ l, 0 ≤ z ∧ z < 4294967296) (i : Int) : 0 ≤ atL l i ∧ atL l i < 4294967296 := by
  unfold atL
  split
  · omega
  · rename_i h0
    have h1 := Int.emod_nonneg i (b := (l.length : Int)) (by omega)
    have h2 := Int.emod_lt_of_pos i (b := (l.length : Int)) (by omega)
    rw [getD_lt _ _ (by omega)]
    exact h _ (List.getElem_mem _)
set_option maxHeartbeats 400000 in
theorem at6_any (l : List Int) (A : Option Addr) (c : Nat) (i : Int) (w : World) (h : U32At w w.heap.size A l) (hl : l.length ≤ maxLen) (h0 : 0 ≤ i) (h1 : i ≤ 1000000) :
    Calls Tryz.prog 8 #[.slice A l.length c, .int .i64 i] w fun e w' => e = .returned (.int .u32 (atL l i)) ∧ w' = w := by
  unfold maxLen at hl
  by_cases hz : l.length = 0
  · have hz2 : ((l.length : Int) == 0) = true := beq_iff_eq.2 (by omega)
    have HA : Hid (atL l i = 0) := Lib.hid (by simp [atL, hz])
    clear hz
    go_enter Tryz.func8, Tryz.ntmps8
    go_wp2
    go_ret
    exact ⟨ret_int HA.out.symm, rfl⟩
  · have hz2 : ((l.length : Int) == 0) = false := beq_eq_false_iff_ne.2 (by omega)
    have g1 := Int.emod_nonneg i (b := (l.length : Int)) (by omega)
    have g2 := Int.emod_lt_of_pos i (b := (l.length : Int)) (by omega)
    obtain ⟨b, off, rfl, _, hc0⟩ := h (i % (l.length : Int)).toNat (by omega)
    have hc := hc0 0 (by omega)
    simp only [u32C, Nat.mul_one, Nat.add_zero, List.getElem?_cons_zero] at hc
    clear hc0
    have HA : Hid (atL l i = l[(i % (l.length : Int)).toNat]'(by omega)) := Lib.hid (by
      unfold atL; rw [if_neg hz, getD_lt _ _ (by omega)])
    have hp : 0 < l.length := by omega
    go_enter Tryz.func8, Tryz.ntmps8
    go_wp2
    go_ret
    exact ⟨ret_int HA.out.symm, rfl⟩
end Go.Proofs.YtpahcbhikmfamaaGreat
