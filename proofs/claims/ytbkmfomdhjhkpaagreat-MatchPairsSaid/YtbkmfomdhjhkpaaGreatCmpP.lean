/- How much two records agree, or the error: the program's. -/
import Derived.Test.YtbkmfomdhjhkpaaGreatCmp
import Derived.Test.YtbkmfomdhjhkpaaGreatCompP
namespace Go.Proofs.YtbkmfomdhjhkpaaGreat
open Go.RowKit

theorem chk_bad {u : Rul} (r : Rec) (h : rulesB u.l u.d u.y u.t = false) : chk u r = 10 := by simp [chk, h]
theorem chk_rec {u : Rul} {r : Rec} (h : rulesB u.l u.d u.y u.t = true) (h' : recB r = false) : chk u r = 11 := by simp [chk, h, h']
theorem chk_ok {u : Rul} {r : Rec} (h : rulesB u.l u.d u.y u.t = true) (h' : recB r = true) : chk u r = 0 := by simp [chk, h, h']
theorem rules_l {u : Rul} (h : rulesB u.l u.d u.y u.t = true) : 0 ≤ u.l := by
  simp only [rulesB, inB, Bool.and_eq_true, decide_eq_true_eq] at h; omega

theorem far5 (W : World) {b g : Nat} (h : g ≠ b) (v0 v1 v2 v3 v4 : Value) (i : Nat) : (((((W.setCell ⟨b, 0, none⟩ v0).setCell ⟨b, 1, none⟩ v1).setCell ⟨b, 2, none⟩ v2).setCell ⟨b, 3, none⟩ v3).setCell ⟨b, 4, none⟩ v4).cell? ⟨g, i, none⟩ = W.cell? ⟨g, i, none⟩ :=
  World.cell?_of_block (w := W) ((((((Below.heap_setCell _ _ _ g h).trans (Below.heap_setCell _ _ _ g h)).trans (Below.heap_setCell _ _ _ g h)).trans (Below.heap_setCell _ _ _ g h))).trans (Below.heap_setCell _ _ _ g h))

set_option maxRecDepth 100000 in
set_option maxHeartbeats 4000000 in
theorem compare_any (u : Rul) (r s : Rec) (A A' D D' : Option Addr) (c c' d d' : Nat) (w : World) (hsr : 0 ≤ r.suf) (hss : 0 ≤ s.suf) (h : RecAt w w.heap.size A D r) (h' : RecAt w w.heap.size A' D' s) (hc : r.names.length ≤ c) (hc' : s.names.length ≤ c') :
    Calls Tryz.prog 23 #[.agg #[.int .i64 u.l, .int .i64 u.d, .int .i64 u.y, .int .i64 u.t], .agg #[.int .i64 r.id, .slice A r.names.length c, .int .u8 r.suf, .int .i64 r.lo, .int .i64 r.hi, .string r.num, .bool r.twin, .slice D r.stays.length d], .agg #[.int .i64 s.id, .slice A' s.names.length c', .int .u8 s.suf, .int .i64 s.lo, .int .i64 s.hi, .string s.num, .bool s.twin, .slice D' s.stays.length d']] w fun e w' => e = .returned (.tuple #[.agg #[.int .u8 (cmpM u r s).names, .int .u8 (cmpM u r s).num, .int .u8 (cmpM u r s).born, .int .u8 (cmpM u r s).place, .int .u8 (cmpM u r s).one], .int .i64 (cmpE u r s)]) ∧ Below w.heap.size w w' := by
  have b0 : Below w.heap.size w ((((w.alloc (.cells #[.int .i64 u.l, .int .i64 u.d, .int .i64 u.y, .int .i64 u.t] 23)).alloc (.cells #[.int .i64 r.id, .slice A r.names.length c, .int .u8 r.suf, .int .i64 r.lo, .int .i64 r.hi, .string r.num, .bool r.twin, .slice D r.stays.length d] 47)).alloc (.cells #[.int .i64 s.id, .slice A' s.names.length c', .int .u8 s.suf, .int .i64 s.lo, .int .i64 s.hi, .string s.num, .bool s.twin, .slice D' s.stays.length d'] 47)).alloc (.cells #[.int .u8 0, .int .u8 0, .int .u8 0, .int .u8 0, .int .u8 0] 54)) := ((((Below.refl _ _).alloc (Nat.le_refl _) _).alloc (by simp) _).alloc (by simp; omega) _).alloc (by simp; omega) _
  have k0 := (((Blk.new w #[.int .i64 u.l, .int .i64 u.d, .int .i64 u.y, .int .i64 u.t] 23).alloc (.cells #[.int .i64 r.id, .slice A r.names.length c, .int .u8 r.suf, .int .i64 r.lo, .int .i64 r.hi, .string r.num, .bool r.twin, .slice D r.stays.length d] 47)).alloc (.cells #[.int .i64 s.id, .slice A' s.names.length c', .int .u8 s.suf, .int .i64 s.lo, .int .i64 s.hi, .string s.num, .bool s.twin, .slice D' s.stays.length d'] 47)).alloc (.cells #[.int .u8 0, .int .u8 0, .int .u8 0, .int .u8 0, .int .u8 0] 54)
  have k1 := ((Blk.new (w.alloc (.cells #[.int .i64 u.l, .int .i64 u.d, .int .i64 u.y, .int .i64 u.t] 23)) #[.int .i64 r.id, .slice A r.names.length c, .int .u8 r.suf, .int .i64 r.lo, .int .i64 r.hi, .string r.num, .bool r.twin, .slice D r.stays.length d] 47).alloc (.cells #[.int .i64 s.id, .slice A' s.names.length c', .int .u8 s.suf, .int .i64 s.lo, .int .i64 s.hi, .string s.num, .bool s.twin, .slice D' s.stays.length d'] 47)).alloc (.cells #[.int .u8 0, .int .u8 0, .int .u8 0, .int .u8 0, .int .u8 0] 54)
  have k2 := (Blk.new ((w.alloc (.cells #[.int .i64 u.l, .int .i64 u.d, .int .i64 u.y, .int .i64 u.t] 23)).alloc (.cells #[.int .i64 r.id, .slice A r.names.length c, .int .u8 r.suf, .int .i64 r.lo, .int .i64 r.hi, .string r.num, .bool r.twin, .slice D r.stays.length d] 47)) #[.int .i64 s.id, .slice A' s.names.length c', .int .u8 s.suf, .int .i64 s.lo, .int .i64 s.hi, .string s.num, .bool s.twin, .slice D' s.stays.length d'] 47).alloc (.cells #[.int .u8 0, .int .u8 0, .int .u8 0, .int .u8 0, .int .u8 0] 54)
  have k3 := Blk.new (((w.alloc (.cells #[.int .i64 u.l, .int .i64 u.d, .int .i64 u.y, .int .i64 u.t] 23)).alloc (.cells #[.int .i64 r.id, .slice A r.names.length c, .int .u8 r.suf, .int .i64 r.lo, .int .i64 r.hi, .string r.num, .bool r.twin, .slice D r.stays.length d] 47)).alloc (.cells #[.int .i64 s.id, .slice A' s.names.length c', .int .u8 s.suf, .int .i64 s.lo, .int .i64 s.hi, .string s.num, .bool s.twin, .slice D' s.stays.length d'] 47)) #[.int .u8 0, .int .u8 0, .int .u8 0, .int .u8 0, .int .u8 0] 54
  simp only [World.size_alloc] at k1 k2 k3
  have Hr := h.later b0
  have Hs := h'.later b0
  have HA := Lib.hid (fun W hh => check_any u A D c d r W hh)
  have HB := Lib.hid (fun W hh => check_any u A' D' c' d' s W hh)
  cases hR : rulesB u.l u.d u.y u.t with
  | false =>
    have hE : cmpE u r s = 10 := by rw [cmpE, if_pos hR]
    rw [cmpM_bad (by rw [hE]; decide), hE]
    rw [chk_bad r hR] at HA
    clear hE
    go_enter Tryz.func23, Tryz.ntmps23
    go_upto_region 1 with fail
    generalize (((w.alloc (.cells #[.int .i64 u.l, .int .i64 u.d, .int .i64 u.y, .int .i64 u.t] 23)).alloc (.cells #[.int .i64 r.id, .slice A r.names.length c, .int .u8 r.suf, .int .i64 r.lo, .int .i64 r.hi, .string r.num, .bool r.twin, .slice D r.stays.length d] 47)).alloc (.cells #[.int .i64 s.id, .slice A' s.names.length c', .int .u8 s.suf, .int .i64 s.lo, .int .i64 s.hi, .string s.num, .bool s.twin, .slice D' s.stays.length d'] 47)).alloc (.cells #[.int .u8 0, .int .u8 0, .int .u8 0, .int .u8 0, .int .u8 0] 54) = W0 at *
    have c0 := k0.cell
    have c1 := k1.cell
    go_wp2_with (go_at_call 51; with_reducible refine (HA.out _ Hr).mono ?_; rintro e w1 ⟨rfl, e1⟩; have q0 := (k0.below e1 k0.lt).cell; have q1 := (k1.below e1 k1.lt).cell; have q2 := (k2.below e1 k2.lt).cell; have q3 := (k3.below e1 k3.lt).cell; have f3 := (k3.below e1 k3.lt).free)
    have hfin : ∀ i, i < 5 → ((((((w1).setCell ⟨w.heap.size + 1 + 1 + 1, 0, none⟩ (.int .u8 0)).setCell ⟨w.heap.size + 1 + 1 + 1, 1, none⟩ (.int .u8 0)).setCell ⟨w.heap.size + 1 + 1 + 1, 2, none⟩ (.int .u8 0)).setCell ⟨w.heap.size + 1 + 1 + 1, 3, none⟩ (.int .u8 0)).setCell ⟨w.heap.size + 1 + 1 + 1, 4, none⟩ (.int .u8 0)).cell? ⟨w.heap.size + 1 + 1 + 1, i, none⟩ = (#[.int .u8 0, .int .u8 0, .int .u8 0, .int .u8 0, .int .u8 0] : Array Value)[i]? := fun i hi => stored5 ⟨q3 0, q3 1, q3 2, q3 3, q3 4⟩ i hi
    have hlow : Below w.heap.size w ((((((w1).setCell ⟨w.heap.size + 1 + 1 + 1, 0, none⟩ (.int .u8 0)).setCell ⟨w.heap.size + 1 + 1 + 1, 1, none⟩ (.int .u8 0)).setCell ⟨w.heap.size + 1 + 1 + 1, 2, none⟩ (.int .u8 0)).setCell ⟨w.heap.size + 1 + 1 + 1, 3, none⟩ (.int .u8 0)).setCell ⟨w.heap.size + 1 + 1 + 1, 4, none⟩ (.int .u8 0)) := below_set5 (b0.trans (e1.mono b0.size)) (by omega) _ _ _ _ _
    generalize (((((w1).setCell ⟨w.heap.size + 1 + 1 + 1, 0, none⟩ (.int .u8 0)).setCell ⟨w.heap.size + 1 + 1 + 1, 1, none⟩ (.int .u8 0)).setCell ⟨w.heap.size + 1 + 1 + 1, 2, none⟩ (.int .u8 0)).setCell ⟨w.heap.size + 1 + 1 + 1, 3, none⟩ (.int .u8 0)).setCell ⟨w.heap.size + 1 + 1 + 1, 4, none⟩ (.int .u8 0) = Wf at *
    have r0 := hfin 0 (by omega)
    have r1 := hfin 1 (by omega)
    have r2 := hfin 2 (by omega)
    have r3 := hfin 3 (by omega)
    have r4 := hfin 4 (by omega)
    clear hfin
    refine bodyPost_ret (v := .tuple #[.agg #[.int .u8 0, .int .u8 0, .int .u8 0, .int .u8 0, .int .u8 0], .int .i64 10]) ?hres rfl ?hpost
    case hres => simp [results, Tryz.results23, go_sem, r0, r1, r2, r3, r4]
    case hpost => exact ⟨rfl, hlow⟩
  | true =>
    cases hr : recB r with
    | false =>
      have hE : cmpE u r s = 11 := by rw [cmpE, if_neg (by rw [hR]; decide), if_pos (.inl hr)]
      rw [cmpM_bad (by rw [hE]; decide), hE]
      rw [chk_rec hR hr] at HA
      clear hE
      go_enter Tryz.func23, Tryz.ntmps23
      go_upto_region 1 with fail
      generalize (((w.alloc (.cells #[.int .i64 u.l, .int .i64 u.d, .int .i64 u.y, .int .i64 u.t] 23)).alloc (.cells #[.int .i64 r.id, .slice A r.names.length c, .int .u8 r.suf, .int .i64 r.lo, .int .i64 r.hi, .string r.num, .bool r.twin, .slice D r.stays.length d] 47)).alloc (.cells #[.int .i64 s.id, .slice A' s.names.length c', .int .u8 s.suf, .int .i64 s.lo, .int .i64 s.hi, .string s.num, .bool s.twin, .slice D' s.stays.length d'] 47)).alloc (.cells #[.int .u8 0, .int .u8 0, .int .u8 0, .int .u8 0, .int .u8 0] 54) = W0 at *
      have c0 := k0.cell
      have c1 := k1.cell
      go_wp2_with (go_at_call 51; with_reducible refine (HA.out _ Hr).mono ?_; rintro e w1 ⟨rfl, e1⟩; have q0 := (k0.below e1 k0.lt).cell; have q1 := (k1.below e1 k1.lt).cell; have q2 := (k2.below e1 k2.lt).cell; have q3 := (k3.below e1 k3.lt).cell; have f3 := (k3.below e1 k3.lt).free)
      have hfin : ∀ i, i < 5 → ((((((w1).setCell ⟨w.heap.size + 1 + 1 + 1, 0, none⟩ (.int .u8 0)).setCell ⟨w.heap.size + 1 + 1 + 1, 1, none⟩ (.int .u8 0)).setCell ⟨w.heap.size + 1 + 1 + 1, 2, none⟩ (.int .u8 0)).setCell ⟨w.heap.size + 1 + 1 + 1, 3, none⟩ (.int .u8 0)).setCell ⟨w.heap.size + 1 + 1 + 1, 4, none⟩ (.int .u8 0)).cell? ⟨w.heap.size + 1 + 1 + 1, i, none⟩ = (#[.int .u8 0, .int .u8 0, .int .u8 0, .int .u8 0, .int .u8 0] : Array Value)[i]? := fun i hi => stored5 ⟨q3 0, q3 1, q3 2, q3 3, q3 4⟩ i hi
      have hlow : Below w.heap.size w ((((((w1).setCell ⟨w.heap.size + 1 + 1 + 1, 0, none⟩ (.int .u8 0)).setCell ⟨w.heap.size + 1 + 1 + 1, 1, none⟩ (.int .u8 0)).setCell ⟨w.heap.size + 1 + 1 + 1, 2, none⟩ (.int .u8 0)).setCell ⟨w.heap.size + 1 + 1 + 1, 3, none⟩ (.int .u8 0)).setCell ⟨w.heap.size + 1 + 1 + 1, 4, none⟩ (.int .u8 0)) := below_set5 (b0.trans (e1.mono b0.size)) (by omega) _ _ _ _ _
      generalize (((((w1).setCell ⟨w.heap.size + 1 + 1 + 1, 0, none⟩ (.int .u8 0)).setCell ⟨w.heap.size + 1 + 1 + 1, 1, none⟩ (.int .u8 0)).setCell ⟨w.heap.size + 1 + 1 + 1, 2, none⟩ (.int .u8 0)).setCell ⟨w.heap.size + 1 + 1 + 1, 3, none⟩ (.int .u8 0)).setCell ⟨w.heap.size + 1 + 1 + 1, 4, none⟩ (.int .u8 0) = Wf at *
      have r0 := hfin 0 (by omega)
      have r1 := hfin 1 (by omega)
      have r2 := hfin 2 (by omega)
      have r3 := hfin 3 (by omega)
      have r4 := hfin 4 (by omega)
      clear hfin
      refine bodyPost_ret (v := .tuple #[.agg #[.int .u8 0, .int .u8 0, .int .u8 0, .int .u8 0, .int .u8 0], .int .i64 11]) ?hres rfl ?hpost
      case hres => simp [results, Tryz.results23, go_sem, r0, r1, r2, r3, r4]
      case hpost => exact ⟨rfl, hlow⟩
    | true =>
      rw [chk_ok hR hr] at HA
      cases hs : recB s with
      | false =>
        have hE : cmpE u r s = 11 := by rw [cmpE, if_neg (by rw [hR]; decide), if_pos (.inr hs)]
        rw [cmpM_bad (by rw [hE]; decide), hE]
        rw [chk_rec hR hs] at HB
        clear hE
        go_enter Tryz.func23, Tryz.ntmps23
        go_upto_region 1 with fail
        generalize (((w.alloc (.cells #[.int .i64 u.l, .int .i64 u.d, .int .i64 u.y, .int .i64 u.t] 23)).alloc (.cells #[.int .i64 r.id, .slice A r.names.length c, .int .u8 r.suf, .int .i64 r.lo, .int .i64 r.hi, .string r.num, .bool r.twin, .slice D r.stays.length d] 47)).alloc (.cells #[.int .i64 s.id, .slice A' s.names.length c', .int .u8 s.suf, .int .i64 s.lo, .int .i64 s.hi, .string s.num, .bool s.twin, .slice D' s.stays.length d'] 47)).alloc (.cells #[.int .u8 0, .int .u8 0, .int .u8 0, .int .u8 0, .int .u8 0] 54) = W0 at *
        have c0 := k0.cell
        have c1 := k1.cell
        go_wp2_with (first | (go_at_call 51; with_reducible refine (HA.out _ Hr).mono ?_; rintro e w1 ⟨rfl, e1⟩; have q0 := (k0.below e1 k0.lt).cell; have q1 := (k1.below e1 k1.lt).cell; have q2 := (k2.below e1 k2.lt).cell; have q3 := (k3.below e1 k3.lt).cell; have f3 := (k3.below e1 k3.lt).free) | (go_at_call 51; with_reducible refine (HB.out _ (Hs.later e1)).mono ?_; rintro e w2 ⟨rfl, hb2⟩; have e2 : Below W0.heap.size W0 w2 := e1.trans (hb2.mono e1.size); have p0 := (k0.below e2 k0.lt).cell; have p1 := (k1.below e2 k1.lt).cell; have p2 := (k2.below e2 k2.lt).cell; have p3 := (k3.below e2 k3.lt).cell; have g3 := (k3.below e2 k3.lt).free))
        have q3 := p3
        have hfin : ∀ i, i < 5 → ((((((w2).setCell ⟨w.heap.size + 1 + 1 + 1, 0, none⟩ (.int .u8 0)).setCell ⟨w.heap.size + 1 + 1 + 1, 1, none⟩ (.int .u8 0)).setCell ⟨w.heap.size + 1 + 1 + 1, 2, none⟩ (.int .u8 0)).setCell ⟨w.heap.size + 1 + 1 + 1, 3, none⟩ (.int .u8 0)).setCell ⟨w.heap.size + 1 + 1 + 1, 4, none⟩ (.int .u8 0)).cell? ⟨w.heap.size + 1 + 1 + 1, i, none⟩ = (#[.int .u8 0, .int .u8 0, .int .u8 0, .int .u8 0, .int .u8 0] : Array Value)[i]? := fun i hi => stored5 ⟨q3 0, q3 1, q3 2, q3 3, q3 4⟩ i hi
        have hlow : Below w.heap.size w ((((((w2).setCell ⟨w.heap.size + 1 + 1 + 1, 0, none⟩ (.int .u8 0)).setCell ⟨w.heap.size + 1 + 1 + 1, 1, none⟩ (.int .u8 0)).setCell ⟨w.heap.size + 1 + 1 + 1, 2, none⟩ (.int .u8 0)).setCell ⟨w.heap.size + 1 + 1 + 1, 3, none⟩ (.int .u8 0)).setCell ⟨w.heap.size + 1 + 1 + 1, 4, none⟩ (.int .u8 0)) := below_set5 (b0.trans (e2.mono b0.size)) (by omega) _ _ _ _ _
        generalize (((((w2).setCell ⟨w.heap.size + 1 + 1 + 1, 0, none⟩ (.int .u8 0)).setCell ⟨w.heap.size + 1 + 1 + 1, 1, none⟩ (.int .u8 0)).setCell ⟨w.heap.size + 1 + 1 + 1, 2, none⟩ (.int .u8 0)).setCell ⟨w.heap.size + 1 + 1 + 1, 3, none⟩ (.int .u8 0)).setCell ⟨w.heap.size + 1 + 1 + 1, 4, none⟩ (.int .u8 0) = Wf at *
        have r0 := hfin 0 (by omega)
        have r1 := hfin 1 (by omega)
        have r2 := hfin 2 (by omega)
        have r3 := hfin 3 (by omega)
        have r4 := hfin 4 (by omega)
        clear hfin
        refine bodyPost_ret (v := .tuple #[.agg #[.int .u8 0, .int .u8 0, .int .u8 0, .int .u8 0, .int .u8 0], .int .i64 11]) ?hres rfl ?hpost
        case hres => simp [results, Tryz.results23, go_sem, r0, r1, r2, r3, r4]
        case hpost => exact ⟨rfl, hlow⟩
      | true =>
        have hE : cmpE u r s = 0 := by rw [cmpE, if_neg (by rw [hR]; decide), if_neg (by rw [hr, hs]; decide)]
        rw [cmpM_good hE, hE]
        rw [chk_ok hR hs] at HB
        have pst := (recB_parts hr).2.2.2.2.2
        have qst := (recB_parts hs).2.2.2.2.2
        have HC := Lib.hid (fun W m m' h0 h1 h2 => compare_in u r s A A' D D' c c' d d' m m' W (rules_l hR) hsr hss h0 h1 h2 hr hs hc hc')
        have HP := Lib.hid (fun W hh => newPerson_any r A D c d W hh pst)
        have HQ := Lib.hid (fun W hh => newPerson_any s A' D' c' d' W hh qst)
        generalize matF u r s = M at HC ⊢
        clear hE
        go_enter Tryz.func23, Tryz.ntmps23
        go_upto_region 1 with fail
        generalize (((w.alloc (.cells #[.int .i64 u.l, .int .i64 u.d, .int .i64 u.y, .int .i64 u.t] 23)).alloc (.cells #[.int .i64 r.id, .slice A r.names.length c, .int .u8 r.suf, .int .i64 r.lo, .int .i64 r.hi, .string r.num, .bool r.twin, .slice D r.stays.length d] 47)).alloc (.cells #[.int .i64 s.id, .slice A' s.names.length c', .int .u8 s.suf, .int .i64 s.lo, .int .i64 s.hi, .string s.num, .bool s.twin, .slice D' s.stays.length d'] 47)).alloc (.cells #[.int .u8 0, .int .u8 0, .int .u8 0, .int .u8 0, .int .u8 0] 54) = W0 at *
        have c0 := k0.cell
        have c1 := k1.cell
        go_upto_region 7 with (first | (go_at_call 51; with_reducible refine (HA.out _ Hr).mono ?_; rintro e w1 ⟨rfl, e1⟩; have q0 := (k0.below e1 k0.lt).cell; have q1 := (k1.below e1 k1.lt).cell; have q2 := (k2.below e1 k2.lt).cell; have q3 := (k3.below e1 k3.lt).cell; have f3 := (k3.below e1 k3.lt).free) | (go_at_call 51; with_reducible refine (HB.out _ (Hs.later e1)).mono ?_; rintro e w2 ⟨rfl, hb2⟩; have e2 : Below W0.heap.size W0 w2 := e1.trans (hb2.mono e1.size); have p0 := (k0.below e2 k0.lt).cell; have p1 := (k1.below e2 k1.lt).cell; have p2 := (k2.below e2 k2.lt).cell; have p3 := (k3.below e2 k3.lt).cell; have g3 := (k3.below e2 k3.lt).free))
        have rV := Hr.later e2
        have sV := Hs.later e2
        have K0 := k0.below e2 k0.lt
        have K1 := k1.below e2 k1.lt
        have K2 := k2.below e2 k2.lt
        have K3 := k3.below e2 k3.lt
        have hbV := b0.trans (e2.mono b0.size)
        clear q0 q1 q2 q3 f3 p0 p1 p2 p3 g3 hb2 e1 e2 c0 c1 k0 k1 k2 k3 Hr Hs b0
        generalize w2 = V at *
        have dd0 : Below V.heap.size V V.drew := (Below.refl _ _).drew
        have SK : ∀ W, Below V.heap.size V W → (∀ i, W.cell? ⟨w.heap.size, i, none⟩ = (#[.int .i64 u.l, .int .i64 u.d, .int .i64 u.y, .int .i64 u.t] : Array Value)[i]?) ∧ (∀ i, W.cell? ⟨w.heap.size + 1, i, none⟩ = (#[.int .i64 r.id, .slice A r.names.length c, .int .u8 r.suf, .int .i64 r.lo, .int .i64 r.hi, .string r.num, .bool r.twin, .slice D r.stays.length d] : Array Value)[i]?) ∧ (∀ i, W.cell? ⟨w.heap.size + 1 + 1, i, none⟩ = (#[.int .i64 s.id, .slice A' s.names.length c', .int .u8 s.suf, .int .i64 s.lo, .int .i64 s.hi, .string s.num, .bool s.twin, .slice D' s.stays.length d'] : Array Value)[i]?) := fun W hW => ⟨(K0.below hW K0.lt).cell, (K1.below hW K1.lt).cell, (K2.below hW K2.lt).cell⟩
        have SX : ∀ W, Below V.heap.size V W → (∀ i, ((((((W).setCell ⟨w.heap.size + 1 + 1 + 1, 0, none⟩ (.int .u8 M.names)).setCell ⟨w.heap.size + 1 + 1 + 1, 1, none⟩ (.int .u8 M.num)).setCell ⟨w.heap.size + 1 + 1 + 1, 2, none⟩ (.int .u8 M.born)).setCell ⟨w.heap.size + 1 + 1 + 1, 3, none⟩ (.int .u8 M.place)).setCell ⟨w.heap.size + 1 + 1 + 1, 4, none⟩ (.int .u8 M.one)).cell? ⟨w.heap.size, i, none⟩ = (#[.int .i64 u.l, .int .i64 u.d, .int .i64 u.y, .int .i64 u.t] : Array Value)[i]?) ∧ (∀ i, ((((((W).setCell ⟨w.heap.size + 1 + 1 + 1, 0, none⟩ (.int .u8 M.names)).setCell ⟨w.heap.size + 1 + 1 + 1, 1, none⟩ (.int .u8 M.num)).setCell ⟨w.heap.size + 1 + 1 + 1, 2, none⟩ (.int .u8 M.born)).setCell ⟨w.heap.size + 1 + 1 + 1, 3, none⟩ (.int .u8 M.place)).setCell ⟨w.heap.size + 1 + 1 + 1, 4, none⟩ (.int .u8 M.one)).cell? ⟨w.heap.size + 1, i, none⟩ = (#[.int .i64 r.id, .slice A r.names.length c, .int .u8 r.suf, .int .i64 r.lo, .int .i64 r.hi, .string r.num, .bool r.twin, .slice D r.stays.length d] : Array Value)[i]?) ∧ (∀ i, ((((((W).setCell ⟨w.heap.size + 1 + 1 + 1, 0, none⟩ (.int .u8 M.names)).setCell ⟨w.heap.size + 1 + 1 + 1, 1, none⟩ (.int .u8 M.num)).setCell ⟨w.heap.size + 1 + 1 + 1, 2, none⟩ (.int .u8 M.born)).setCell ⟨w.heap.size + 1 + 1 + 1, 3, none⟩ (.int .u8 M.place)).setCell ⟨w.heap.size + 1 + 1 + 1, 4, none⟩ (.int .u8 M.one)).cell? ⟨w.heap.size + 1 + 1, i, none⟩ = (#[.int .i64 s.id, .slice A' s.names.length c', .int .u8 s.suf, .int .i64 s.lo, .int .i64 s.hi, .string s.num, .bool s.twin, .slice D' s.stays.length d'] : Array Value)[i]?) := fun W hW => ⟨fun i => (far5 W (by omega) _ _ _ _ _ i).trans ((SK W hW).1 i), fun i => (far5 W (by omega) _ _ _ _ _ i).trans ((SK W hW).2.1 i), fun i => (far5 W (by omega) _ _ _ _ _ i).trans ((SK W hW).2.2 i)⟩
        go_region_held3 (fun W => (∀ i, W.cell? ⟨w.heap.size, i, none⟩ = (#[.int .i64 u.l, .int .i64 u.d, .int .i64 u.y, .int .i64 u.t] : Array Value)[i]?) ∧ (∀ i, W.cell? ⟨w.heap.size + 1, i, none⟩ = (#[.int .i64 r.id, .slice A r.names.length c, .int .u8 r.suf, .int .i64 r.lo, .int .i64 r.hi, .string r.num, .bool r.twin, .slice D r.stays.length d] : Array Value)[i]?) ∧ (∀ i, W.cell? ⟨w.heap.size + 1 + 1, i, none⟩ = (#[.int .i64 s.id, .slice A' s.names.length c', .int .u8 s.suf, .int .i64 s.lo, .int .i64 s.hi, .string s.num, .bool s.twin, .slice D' s.stays.length d'] : Array Value)[i]?)) (first | (with_reducible exact SK _ dd0) | (with_reducible exact SK _ d4) | (with_reducible exact SK _ d2) | (with_reducible exact SK _ d1) | (with_reducible exact SX _ d4))
          (first
            | (go_at_call 52; with_reducible refine (HP.out _ ?_).mono ?_; exact (rV.later dd0).stays; rintro e w1 ⟨m, rfl, hm1, hb1, hP1⟩; have d1 : Below V.heap.size V w1 := dd0.trans (hb1.mono dd0.size))
            | (go_at_call 52; with_reducible refine (HQ.out _ ?_).mono ?_; exact (sV.later d1).stays; rintro e w2 ⟨m', rfl, hm2, hb2, hP2⟩; have d2 : Below V.heap.size V w2 := d1.trans (hb2.mono d1.size))
            | (go_at_call 32; with_reducible refine (HC.out _ m m' ?_ ?_ ?_).mono ?_; exact hP2; exact rV.later d2; exact sV.later d2; rintro e w4 ⟨rfl, hb4⟩; have d4 : Below V.heap.size V w4 := d2.trans (hb4.mono d2.size); have q3 := (K3.below d4 K3.lt).cell; have f3 := (K3.below d4 K3.lt).free))
        go_wp2_with fail
        have hfin : ∀ i, i < 5 → ((((((w4).setCell ⟨w.heap.size + 1 + 1 + 1, 0, none⟩ (.int .u8 M.names)).setCell ⟨w.heap.size + 1 + 1 + 1, 1, none⟩ (.int .u8 M.num)).setCell ⟨w.heap.size + 1 + 1 + 1, 2, none⟩ (.int .u8 M.born)).setCell ⟨w.heap.size + 1 + 1 + 1, 3, none⟩ (.int .u8 M.place)).setCell ⟨w.heap.size + 1 + 1 + 1, 4, none⟩ (.int .u8 M.one)).cell? ⟨w.heap.size + 1 + 1 + 1, i, none⟩ = (#[.int .u8 M.names, .int .u8 M.num, .int .u8 M.born, .int .u8 M.place, .int .u8 M.one] : Array Value)[i]? := fun i hi => stored5 ⟨q3 0, q3 1, q3 2, q3 3, q3 4⟩ i hi
        have hlow : Below w.heap.size w ((((((w4).setCell ⟨w.heap.size + 1 + 1 + 1, 0, none⟩ (.int .u8 M.names)).setCell ⟨w.heap.size + 1 + 1 + 1, 1, none⟩ (.int .u8 M.num)).setCell ⟨w.heap.size + 1 + 1 + 1, 2, none⟩ (.int .u8 M.born)).setCell ⟨w.heap.size + 1 + 1 + 1, 3, none⟩ (.int .u8 M.place)).setCell ⟨w.heap.size + 1 + 1 + 1, 4, none⟩ (.int .u8 M.one)) := below_set5 (hbV.trans (d4.mono hbV.size)) (by omega) _ _ _ _ _
        generalize (((((w4).setCell ⟨w.heap.size + 1 + 1 + 1, 0, none⟩ (.int .u8 M.names)).setCell ⟨w.heap.size + 1 + 1 + 1, 1, none⟩ (.int .u8 M.num)).setCell ⟨w.heap.size + 1 + 1 + 1, 2, none⟩ (.int .u8 M.born)).setCell ⟨w.heap.size + 1 + 1 + 1, 3, none⟩ (.int .u8 M.place)).setCell ⟨w.heap.size + 1 + 1 + 1, 4, none⟩ (.int .u8 M.one) = Wf at *
        have r0 := hfin 0 (by omega)
        have r1 := hfin 1 (by omega)
        have r2 := hfin 2 (by omega)
        have r3 := hfin 3 (by omega)
        have r4 := hfin 4 (by omega)
        clear hfin
        refine bodyPost_ret (v := .tuple #[.agg #[.int .u8 M.names, .int .u8 M.num, .int .u8 M.born, .int .u8 M.place, .int .u8 M.one], .int .i64 0]) ?hres rfl ?hpost
        case hres => simp [results, Tryz.results23, go_sem, r0, r1, r2, r3, r4]
        case hpost => exact ⟨rfl, hlow⟩

end Go.Proofs.YtbkmfomdhjhkpaaGreat
