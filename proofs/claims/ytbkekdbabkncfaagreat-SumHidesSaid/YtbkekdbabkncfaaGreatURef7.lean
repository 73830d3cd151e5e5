/- Subjects in the order of their numbers, by the reference. -/
import Derived.Test.YtbkekdbabkncfaaGreatD2
import Derived.Test.YtbkekdbabkncfaaGreatURef4
import Derived.Test.YtbkekdbabkncfaaGreatUApp

namespace Go.Proofs.YtbkekdbabkncfaaGreat
open Go.RowKit Go.Maps

theorem subInfo : (Tryz.prog.info? 56).map (fun i => (i.zero, i.size, i.bytes)) = some (some (.agg #[.int .i64 0, .slice none 0 0]), 2, 32) := by kernel_rfl
/-- A list in new memory, put in order. -/
def OrdS (w : World) (l : List SubD) (e : Ending) (w' : World) : Prop := ∃ A' c' ol, e = .returned (.slice A' l.length c') ∧ Hid (ol.Perm l ∧ ol.Pairwise (fun x y => x.v.id ≤ y.v.id) ∧ SubsAt w' w'.heap.size A' ol) ∧ Below w.heap.size w w'
structure OWS (l : List SubD) (w W : World) (A1 : Option Addr) (c1 : Nat) (ml : List SubD) : Prop where
  perm : ml.Perm l
  own : W.ownsRow w.heap.size 56 2 (.slice A1 l.length c1) l.length (ml.flatMap subC)
  bel : Below w.heap.size w W
theorem ords_next {l ml : List SubD} {w V : World} {g c1 m i : Nat} {x0 x1 : SubD} (hp : ml.Perm l) (ownV : V.ownsRow w.heap.size 56 2 (.slice (some ⟨g, 0, none⟩) l.length c1) l.length (ml.flatMap subC)) (belV : Below w.heap.size w V)
    (hm : m + 1 < ml.length) (hi : i < ml.length) (_hmi : m + 1 ≤ i) (h0 : ml[m] = x0) (h1 : ml[m + 1] = x1) (hlt : x1.v.id < x0.v.id) (hI : InsInv (idS ml) i (m + 1)) :
    ∃ ml', OWS l w ((((V.setCell ⟨g, (m + 1) * 2, none⟩ (.int .i64 x0.v.id)).setCell ⟨g, (m + 1) * 2 + 1, none⟩ (.slice x0.V x0.v.vals.length x0.c)).setCell ⟨g, m * 2, none⟩ (.int .i64 x1.v.id)).setCell ⟨g, m * 2 + 1, none⟩ (.slice x1.V x1.v.vals.length x1.c)) (some ⟨g, 0, none⟩) c1 ml' ∧ InsInv (idS ml') i m := by
  have hgb : w.heap.size ≤ g := (ownV.lt g rfl).1
  subst h0 h1
  refine ⟨swapL ml (m + 1) (ml[m]'(by omega)) ml[m + 1], ⟨(swapL_perm ml (m + 1) (by omega) hm).trans hp, ?_, ((((belV.setCell (by show w.heap.size ≤ g; omega) _).setCell (by show w.heap.size ≤ g; omega) _).setCell (by show w.heap.size ≤ g; omega) _).setCell (by show w.heap.size ≤ g; omega) _)⟩, ?_⟩
  · have o := ((((ownV.stored ((m + 1) * 2) (.int .i64 ml[m].v.id)).1.stored ((m + 1) * 2 + 1) (.slice ml[m].V ml[m].v.vals.length ml[m].c)).1.stored (m * 2) (.int .i64 ml[m + 1].v.id)).1.stored (m * 2 + 1) (.slice ml[m + 1].V ml[m + 1].v.vals.length ml[m + 1].c)).1
    have e1 := subCs_set ml (m + 1) hm (ml[m]'(by omega))
    have e2 := subCs_set (ml.set (m + 1) (ml[m]'(by omega))) m (by simp; omega) ml[m + 1]
    rw [e1] at e2
    unfold swapL
    rw [Nat.add_sub_cancel, e2]
    exact o
  · have h2 := ins_step (f := idS ml) (i := i) (k := m + 1) (by omega) (by rw [Nat.add_sub_cancel, idS_get ml m (by omega), idS_get ml (m + 1) hm]; exact hlt) hI
    rw [Nat.add_sub_cancel] at h2
    refine h2.congr fun a ha => ?_
    have hg := swapL_get ml (m + 1) (by omega) hm a (by omega)
    simp only [Nat.add_sub_cancel] at hg
    unfold swp
    simp only [Nat.add_sub_cancel]
    rw [idS_get (swapL ml (m + 1) (ml[m]'(by omega)) ml[m + 1]) a (by rw [swapL_len]; omega), hg, idS_get ml m (by omega), idS_get ml (m + 1) hm, idS_get ml a (by omega)]
    split
    · rfl
    · split <;> rfl
theorem ows_drew {l : List SubD} {w W : World} {A1 : Option Addr} {c1 : Nat} {Q : List SubD → Prop} (h : ∃ ml, OWS l w W A1 c1 ml ∧ Q ml) : ∃ ml, OWS l w W.drew A1 c1 ml ∧ Q ml := by
  obtain ⟨ml, ⟨h1, h2, h3⟩, hq⟩ := h
  exact ⟨ml, ⟨h1, own_below h2 (Below.refl _ _).drew, h3.drew⟩, hq⟩
theorem subs_own {l : List SubD} {w W : World} {A1 : Option Addr} {c1 : Nat} (h : W.ownsRow w.heap.size 56 2 (.slice A1 l.length c1) l.length (l.flatMap subC)) (hv : ∀ x ∈ l, Flat 1 intC W W.heap.size x.V x.v.vals) : SubsAt W W.heap.size A1 l := ⟨Flat.of_own subC_len (by decide) h, hv⟩

set_option maxRecDepth 100000 in
set_option maxHeartbeats 4000000 in
theorem ordered10_any (l : List SubD) (A : Option Addr) (c : Nat) (w : World) (h : SubsAt w w.heap.size A l) (hl : l.length ≤ 1000) :
    Calls Tryz.prog 50 #[.slice A l.length c] w (OrdS w l) := by
  obtain ⟨i0, hi, hz0, hz1, hz2⟩ := info_parts subInfo
  have hown0 := own_empty w 56 2 w.heap.size (Nat.le_refl _)
  have h0 := h.later ((Below.refl _ _).alloc (Nat.le_refl _) (.cells #[] 56))
  go_enter Tryz.func50, Tryz.ntmps50
  go_wp2_with (at_builtin; refine wpList_append_src _ rfl (.tmp 6) (.tmp 7) 30 rfl w.heap.size 56 i0 _ 2 32 Tryz.underlying30 hi hz0 hz1 hz2 rfl (by decide) _ 0 [] rfl ?a1 A l.length c (l.flatMap subC) rfl ?a2 ?a3 ?a4 ?a5 ?a6 ?a7 ?a8 ?_)
  case a1 => exact hown0
  case a2 => exact subCs_len l
  case a3 => rintro rfl; exact h.row.none_
  case a4 => exact h0.row.news subC_len (by decide)
  case a5 => exact subCs_one l
  case a6 => unfold maxLen; omega
  case a7 => omega
  case a8 => simp
  intro v1 w1 hown1 hg1 _
  obtain ⟨A1, c1, rfl⟩ := own_slice hown1
  have hb1 : Below w.heap.size w w1 := ((Below.refl _ _).alloc (Nat.le_refl _) _).grown hg1 (by simp) (by intro k hk; simp [Value.ownBlock] at hk; omega)
  have HW : Hid (∃ ml, OWS l w w1 A1 c1 ml ∧ ∀ a b, a < b → b < 1 → idS ml a ≤ idS ml b) := Lib.hid ⟨l, ⟨List.Perm.refl _, by simpa using hown1, hb1⟩, fun a b h1 h2 => by omega⟩
  clear hown1 hg1 hown0 h0 hb1
  go_wp2_with fail
  go_loopw [4, 5] (fun ii kk wr => ∃ i : Nat, 1 ≤ i ∧ i ≤ 1001 ∧ ii = .int .i64 i ∧ Hid (∃ ml, OWS l w wr A1 c1 ml ∧ ∀ a b, a < b → b < i → b < l.length → idS ml a ≤ idS ml b)) (fun ii _ _ => l.length + 1 - (vInt ii).toNat)
  case atStart => exact ⟨1, by omega, by omega, rfl, by obtain ⟨ml, h1, h2⟩ := HW.out; exact Lib.hid ⟨ml, h1, fun a b x y _ => h2 a b x y⟩⟩
  case round =>
    obtain ⟨i, hi1, hi2, rfl, hT⟩ := hrel
    by_cases hlt : i < l.length
    · have hil : (i : Int) < (l.length : Int) := by omega
      obtain ⟨wo, rfl⟩ : ∃ wo : World, wo = wr := ⟨_, rfl⟩
      go_wp2_with fail
      go_loopw [5] (fun kk wr => ∃ (k : Nat) (z : Int), k ≤ i ∧ z = k ∧ kk = .int .i64 z ∧ Hid (∃ ml, OWS l w wr A1 c1 ml ∧ InsInv (idS ml) i k)) (fun kk _ => (vInt kk).toNat)
      case atStart => exact ⟨i, i, Nat.le_refl _, rfl, rfl, by obtain ⟨ml, h1, h2⟩ := hT.out; exact Lib.hid ⟨ml, h1, ins_start fun a b x y => h2 a b x y (by omega)⟩⟩
      case round =>
        obtain ⟨k, z, hk, hzk, rfl, hT2⟩ := hrel
        clear hT HW
        rcases Nat.eq_zero_or_pos k with rfl | hkp
        · have HE : Hid (∃ ml, OWS l w wr A1 c1 ml ∧ ∀ a b, a < b → b < i + 1 → b < l.length → idS ml a ≤ idS ml b) := by
            obtain ⟨ml, h1, h2⟩ := hT2.out
            exact Lib.hid ⟨ml, h1, fun a b x y _ => ins_end h2 (.inl rfl) a b x y⟩
          obtain rfl : z = 0 := by simpa using hzk
          have hd : decide ((0 : Int) < 0) = false := by decide
          clear hzk
          go_wp2_with fail
          go_quiet (fail)
          go_wp2_with fail
          go_roundw
          case rel =>
            obtain ⟨ml2, o1, o2⟩ := HE.out
            exact ⟨i + 1, by omega, by omega, by go_num, Lib.hid ⟨ml2, ⟨o1.perm, own_below o1.own (below_drewN (Below.refl _ _) _), below_drewN o1.bel _⟩, o2⟩⟩
          case measure => simp [vInt]; omega
        · obtain ⟨m, rfl⟩ : ∃ m, k = m + 1 := ⟨k - 1, by omega⟩
          obtain rfl : z = (m : Int) + 1 := by omega
          clear hzk
          obtain ⟨ml, hO, hI⟩ := hT2.out
          have hml : ml.length = l.length := hO.perm.length_eq
          have hlen8 := subCs_len ml
          have hown := hO.own
          obtain ⟨g, cap, hv, hgb, hglt⟩ := hown.form (by omega)
          simp only [Value.slice.injEq, true_and] at hv
          obtain ⟨rfl, rfl⟩ := hv
          have G1 := subCs_get ml (m + 1) (by omega)
          have G0 := subCs_get ml m (by omega)
          generalize hx1 : ml[m + 1] = x1 at G1
          generalize hx0 : ml[m] = x0 at G0
          have a0 : wr.cell? ⟨g, (m + 1) * 2, none⟩ = some (.int .i64 x1.v.id) := (hown.cellAt ((m + 1) * 2) (by omega)).trans ((G1) 0 (by omega))
          have a1 : wr.cell? ⟨g, (m + 1) * 2 + 1, none⟩ = some (.slice x1.V x1.v.vals.length x1.c) := (hown.cellAt ((m + 1) * 2 + 1) (by omega)).trans ((G1) 1 (by omega))
          have b0 : wr.cell? ⟨g, m * 2, none⟩ = some (.int .i64 x0.v.id) := (hown.cellAt (m * 2) (by omega)).trans ((G0) 0 (by omega))
          have b1 : wr.cell? ⟨g, m * 2 + 1, none⟩ = some (.slice x0.V x0.v.vals.length x0.c) := (hown.cellAt (m * 2 + 1) (by omega)).trans ((G0) 1 (by omega))
          have Hx1 := Lib.hid hx1
          have Hx0 := Lib.hid hx0
          have HO := Lib.hid hO
          have HG1 := Lib.hid G1
          have HG0 := Lib.hid G0
          have HI := Lib.hid hI
          have Hml := Lib.hid hml
          clear hx1 hx0 hO hI hlen8 hown G1 G0 hT2
          have hm1 : (m : Int) + 1 < (l.length : Int) := by omega
          have hm0 : (m : Int) < (l.length : Int) := by omega
          by_cases hq : x1.v.id < x0.v.id
          · have e1 : ((m : Int) + 1).toNat = m + 1 := by omega
            have e2 : IntKind.i64.wrap ((m : Int) + 1 - 1) = (m : Int) := by rw [show (m : Int) + 1 - 1 = m by omega]; exact IntWalk.i64_in _ (by omega)
            have e3 : ((m : Int) + 1 - 1) = (m : Int) := by omega
            have hg0 : decide ((0 : Int) < (m : Int) + 1) = true := decide_eq_true (by omega)
            have e4 : (0 : Int) < (m : Int) + 1 := by omega
            have e5 : (m : Int) + 1 < (l.length : Int) := by omega
            go_wp2_with fail
            go_quiet (fail)
            go_wp2_with fail
            have ownV := own_below HO.out.own (below_drewN (Below.refl wr.heap.size wr) nq)
            have belV : Below w.heap.size w (wr.drewN nq) := below_drewN HO.out.bel nq
            clear a0 a1 b0 b1
            generalize wr.drewN nq = V at *
            have a0 : V.cell? ⟨g, (m + 1) * 2, none⟩ = some (.int .i64 x1.v.id) := (ownV.cellAt ((m + 1) * 2) (by omega)).trans (HG1.out 0 (by omega))
            have fa0 := ownV.frozenAt ((m + 1) * 2)
            have a1 : V.cell? ⟨g, (m + 1) * 2 + 1, none⟩ = some (.slice x1.V x1.v.vals.length x1.c) := (ownV.cellAt ((m + 1) * 2 + 1) (by omega)).trans (HG1.out 1 (by omega))
            have fa1 := ownV.frozenAt ((m + 1) * 2 + 1)
            have b0 : V.cell? ⟨g, m * 2, none⟩ = some (.int .i64 x0.v.id) := (ownV.cellAt (m * 2) (by omega)).trans (HG0.out 0 (by omega))
            have fb0 := ownV.frozenAt (m * 2)
            have b1 : V.cell? ⟨g, m * 2 + 1, none⟩ = some (.slice x0.V x0.v.vals.length x0.c) := (ownV.cellAt (m * 2 + 1) (by omega)).trans (HG0.out 1 (by omega))
            have fb1 := ownV.frozenAt (m * 2 + 1)
            have OwnV := Lib.hid ownV
            have hne : (m + 1) * 2 ≠ m * 2 := by omega
            clear ownV
            go_region
            go_wp2_with fail
            go_roundw
            case rel =>
              refine ⟨m, m, by omega, rfl, by first | rfl | go_num, ?_⟩
              exact Lib.hid (ows_drew (ords_next HO.out.perm OwnV.out belV (by rw [Hml.out]; omega) (by rw [Hml.out]; exact hlt) hk Hx0.out Hx1.out hq HI.out))
            case measure => simp [vInt]
          · have HE : Hid (∃ ml, OWS l w wr (some ⟨g, 0, none⟩) c1 ml ∧ ∀ a b, a < b → b < i + 1 → b < l.length → idS ml a ≤ idS ml b) :=
              Lib.hid ⟨ml, HO.out, fun a b x y _ => ins_end HI.out (.inr (by
                rw [Nat.add_sub_cancel, idS_get ml m (by omega), idS_get ml (m + 1) (by omega), Hx0.out, Hx1.out]; omega)) a b x y⟩
            have e1 : ((m : Int) + 1).toNat = m + 1 := by omega
            have e2 : IntKind.i64.wrap ((m : Int) + 1 - 1) = (m : Int) := by rw [show (m : Int) + 1 - 1 = m by omega]; exact IntWalk.i64_in _ (by omega)
            have e3 : ((m : Int) + 1 - 1) = (m : Int) := by omega
            have hg0 : decide ((0 : Int) < (m : Int) + 1) = true := decide_eq_true (by omega)
            have e4 : (0 : Int) < (m : Int) + 1 := by omega
            have e5 : (m : Int) + 1 < (l.length : Int) := by omega
            go_wp2_with fail
            go_quiet (fail)
            go_wp2_with fail
            go_roundw
            case rel =>
              obtain ⟨ml2, o1, o2⟩ := HE.out
              exact ⟨i + 1, by omega, by omega, by go_num, Lib.hid ⟨ml2, ⟨o1.perm, own_below o1.own (below_drewN (Below.refl _ _) _), below_drewN o1.bel _⟩, o2⟩⟩
            case measure => simp [vInt]; omega
    · have hil : ¬ (i : Int) < (l.length : Int) := by omega
      clear HW
      go_wp2_with fail
      go_ret
      obtain ⟨ml, hO, hS⟩ := hT.out
      have hml : ml.length = l.length := hO.perm.length_eq
      refine ⟨A1, c1, ml, rfl, Lib.hid ⟨hO.perm, ?_, ?_⟩, hO.bel⟩
      · rw [List.pairwise_iff_getElem]
        intro a b ha hb hab
        have := hS a b hab (by omega) (by omega)
        rwa [idS_get ml a ha, idS_get ml b hb] at this
      · have hown := hO.own
        rw [← hml] at hown
        exact subs_own hown fun z hz => (h.each z (hO.perm.mem_iff.1 hz)).later hO.bel
end Go.Proofs.YtbkekdbabkncfaaGreat
