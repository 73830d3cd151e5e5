/- How much two records agree, or the error: the reference's. -/
import Derived.Test.YtmnkcblopbjiaaaChecks
import Derived.Test.YtmnkcblopbjiaaaCompr
namespace Go.Proofs.Ytmnkcblopbjiaaa
open Go.RowKit

def cmpE (u : Rul) (r s : Rec) : Int := if rulesB u.l u.d u.y u.t = false then 10 else if recB r = false ∨ recB s = false then 11 else 0
def cmpM (u : Rul) (r s : Rec) : Mat := if cmpE u r s = 0 then matF u r s else ⟨0, 0, 0, 0, 0⟩
theorem cmpM_bad {u : Rul} {r s : Rec} (h : cmpE u r s ≠ 0) : cmpM u r s = ⟨0, 0, 0, 0, 0⟩ := if_neg h
theorem cmpM_good {u : Rul} {r s : Rec} (h : cmpE u r s = 0) : cmpM u r s = matF u r s := if_pos h

theorem refRules_below (l d y t : Int) (w : World) : Calls Try.prog 18 #[.agg #[.int .i64 l, .int .i64 d, .int .i64 y, .int .i64 t]] w fun e w' => e = .returned (.bool (rulesB l d y t)) ∧ Below w.heap.size w w' :=
  (refRules_any l d y t w).mono fun _ _ ⟨h1, h2⟩ => ⟨h1, h2 ▸ (Below.refl _ _).alloc (Nat.le_refl _) _⟩

set_option maxRecDepth 100000 in
set_option maxHeartbeats 4000000 in
theorem refCompare_any (u : Rul) (r s : Rec) (A A' D D' : Option Addr) (c c' d d' : Nat) (w : World) (h : RecAt w w.heap.size A D r) (h' : RecAt w w.heap.size A' D' s) (hc : r.names.length ≤ c) (hc' : s.names.length ≤ c') :
    Calls Try.prog 13 #[.agg #[.int .i64 u.l, .int .i64 u.d, .int .i64 u.y, .int .i64 u.t], .agg #[.int .i64 r.id, .slice A r.names.length c, .int .u8 r.suf, .int .i64 r.lo, .int .i64 r.hi, .string r.num, .bool r.twin, .slice D r.stays.length d], .agg #[.int .i64 s.id, .slice A' s.names.length c', .int .u8 s.suf, .int .i64 s.lo, .int .i64 s.hi, .string s.num, .bool s.twin, .slice D' s.stays.length d']] w fun e w' => e = .returned (.tuple #[.agg #[.int .u8 (cmpM u r s).names, .int .u8 (cmpM u r s).num, .int .u8 (cmpM u r s).born, .int .u8 (cmpM u r s).place, .int .u8 (cmpM u r s).one], .int .i64 (cmpE u r s)]) ∧ Below w.heap.size w w' := by
  have b0 : Below w.heap.size w ((((w.alloc (.cells #[.int .i64 u.l, .int .i64 u.d, .int .i64 u.y, .int .i64 u.t] 23)).alloc (.cells #[.int .i64 r.id, .slice A r.names.length c, .int .u8 r.suf, .int .i64 r.lo, .int .i64 r.hi, .string r.num, .bool r.twin, .slice D r.stays.length d] 29)).alloc (.cells #[.int .i64 s.id, .slice A' s.names.length c', .int .u8 s.suf, .int .i64 s.lo, .int .i64 s.hi, .string s.num, .bool s.twin, .slice D' s.stays.length d'] 29)).alloc (.cells #[.int .u8 0, .int .u8 0, .int .u8 0, .int .u8 0, .int .u8 0] 42)) := ((((Below.refl _ _).alloc (Nat.le_refl _) _).alloc (by simp) _).alloc (by simp; omega) _).alloc (by simp; omega) _
  have k0 := (((Blk.new w #[.int .i64 u.l, .int .i64 u.d, .int .i64 u.y, .int .i64 u.t] 23).alloc (.cells #[.int .i64 r.id, .slice A r.names.length c, .int .u8 r.suf, .int .i64 r.lo, .int .i64 r.hi, .string r.num, .bool r.twin, .slice D r.stays.length d] 29)).alloc (.cells #[.int .i64 s.id, .slice A' s.names.length c', .int .u8 s.suf, .int .i64 s.lo, .int .i64 s.hi, .string s.num, .bool s.twin, .slice D' s.stays.length d'] 29)).alloc (.cells #[.int .u8 0, .int .u8 0, .int .u8 0, .int .u8 0, .int .u8 0] 42)
  have k1 := ((Blk.new (w.alloc (.cells #[.int .i64 u.l, .int .i64 u.d, .int .i64 u.y, .int .i64 u.t] 23)) #[.int .i64 r.id, .slice A r.names.length c, .int .u8 r.suf, .int .i64 r.lo, .int .i64 r.hi, .string r.num, .bool r.twin, .slice D r.stays.length d] 29).alloc (.cells #[.int .i64 s.id, .slice A' s.names.length c', .int .u8 s.suf, .int .i64 s.lo, .int .i64 s.hi, .string s.num, .bool s.twin, .slice D' s.stays.length d'] 29)).alloc (.cells #[.int .u8 0, .int .u8 0, .int .u8 0, .int .u8 0, .int .u8 0] 42)
  have k2 := (Blk.new ((w.alloc (.cells #[.int .i64 u.l, .int .i64 u.d, .int .i64 u.y, .int .i64 u.t] 23)).alloc (.cells #[.int .i64 r.id, .slice A r.names.length c, .int .u8 r.suf, .int .i64 r.lo, .int .i64 r.hi, .string r.num, .bool r.twin, .slice D r.stays.length d] 29)) #[.int .i64 s.id, .slice A' s.names.length c', .int .u8 s.suf, .int .i64 s.lo, .int .i64 s.hi, .string s.num, .bool s.twin, .slice D' s.stays.length d'] 29).alloc (.cells #[.int .u8 0, .int .u8 0, .int .u8 0, .int .u8 0, .int .u8 0] 42)
  have k3 := Blk.new (((w.alloc (.cells #[.int .i64 u.l, .int .i64 u.d, .int .i64 u.y, .int .i64 u.t] 23)).alloc (.cells #[.int .i64 r.id, .slice A r.names.length c, .int .u8 r.suf, .int .i64 r.lo, .int .i64 r.hi, .string r.num, .bool r.twin, .slice D r.stays.length d] 29)).alloc (.cells #[.int .i64 s.id, .slice A' s.names.length c', .int .u8 s.suf, .int .i64 s.lo, .int .i64 s.hi, .string s.num, .bool s.twin, .slice D' s.stays.length d'] 29)) #[.int .u8 0, .int .u8 0, .int .u8 0, .int .u8 0, .int .u8 0] 42
  simp only [World.size_alloc] at k1 k2 k3
  have Hr := h.later b0
  have Hs := h'.later b0
  have HR := Lib.hid (fun W => refRules_below u.l u.d u.y u.t W)
  have HA := Lib.hid (fun W hh => refRecord_any A D c d r W hh)
  have HB := Lib.hid (fun W hh => refRecord_any A' D' c' d' s W hh)
  cases hR : rulesB u.l u.d u.y u.t with
  | false =>
    have hE : cmpE u r s = 10 := by rw [cmpE, if_pos hR]
    rw [cmpM_bad (by rw [hE]; decide), hE]
    rw [hR] at HR
    clear hE
    go_enter Try.func13, Try.ntmps13
    go_upto_region 1 with fail
    generalize (((w.alloc (.cells #[.int .i64 u.l, .int .i64 u.d, .int .i64 u.y, .int .i64 u.t] 23)).alloc (.cells #[.int .i64 r.id, .slice A r.names.length c, .int .u8 r.suf, .int .i64 r.lo, .int .i64 r.hi, .string r.num, .bool r.twin, .slice D r.stays.length d] 29)).alloc (.cells #[.int .i64 s.id, .slice A' s.names.length c', .int .u8 s.suf, .int .i64 s.lo, .int .i64 s.hi, .string s.num, .bool s.twin, .slice D' s.stays.length d'] 29)).alloc (.cells #[.int .u8 0, .int .u8 0, .int .u8 0, .int .u8 0, .int .u8 0] 42) = W0 at *
    have c0 := k0.cell
    go_wp2_with (go_at_call 18; refine (HR.out _).mono ?_; rintro e w1 ⟨rfl, e1⟩; have q1 := (k1.below e1 k1.lt).cell; have q2 := (k2.below e1 k2.lt).cell; have q3 := (k3.below e1 k3.lt).cell; have f3 := (k3.below e1 k3.lt).free; have q0 := (k0.below e1 k0.lt).cell; have hw := b0.trans (e1.mono b0.size))
    have hfin : ∀ i, i < 5 → ((((((w1).setCell ⟨w.heap.size + 1 + 1 + 1, 0, none⟩ (.int .u8 0)).setCell ⟨w.heap.size + 1 + 1 + 1, 1, none⟩ (.int .u8 0)).setCell ⟨w.heap.size + 1 + 1 + 1, 2, none⟩ (.int .u8 0)).setCell ⟨w.heap.size + 1 + 1 + 1, 3, none⟩ (.int .u8 0)).setCell ⟨w.heap.size + 1 + 1 + 1, 4, none⟩ (.int .u8 0)).cell? ⟨w.heap.size + 1 + 1 + 1, i, none⟩ = (#[.int .u8 0, .int .u8 0, .int .u8 0, .int .u8 0, .int .u8 0] : Array Value)[i]? := fun i hi => stored5 ⟨q3 0, q3 1, q3 2, q3 3, q3 4⟩ i hi
    have hlow : Below w.heap.size w ((((((w1).setCell ⟨w.heap.size + 1 + 1 + 1, 0, none⟩ (.int .u8 0)).setCell ⟨w.heap.size + 1 + 1 + 1, 1, none⟩ (.int .u8 0)).setCell ⟨w.heap.size + 1 + 1 + 1, 2, none⟩ (.int .u8 0)).setCell ⟨w.heap.size + 1 + 1 + 1, 3, none⟩ (.int .u8 0)).setCell ⟨w.heap.size + 1 + 1 + 1, 4, none⟩ (.int .u8 0)) := below_set5 (hw) (by omega) _ _ _ _ _
    generalize (((((w1).setCell ⟨w.heap.size + 1 + 1 + 1, 0, none⟩ (.int .u8 0)).setCell ⟨w.heap.size + 1 + 1 + 1, 1, none⟩ (.int .u8 0)).setCell ⟨w.heap.size + 1 + 1 + 1, 2, none⟩ (.int .u8 0)).setCell ⟨w.heap.size + 1 + 1 + 1, 3, none⟩ (.int .u8 0)).setCell ⟨w.heap.size + 1 + 1 + 1, 4, none⟩ (.int .u8 0) = Wf at *
    have r0 := hfin 0 (by omega)
    have r1 := hfin 1 (by omega)
    have r2 := hfin 2 (by omega)
    have r3 := hfin 3 (by omega)
    have r4 := hfin 4 (by omega)
    clear hfin
    refine bodyPost_ret (v := .tuple #[.agg #[.int .u8 0, .int .u8 0, .int .u8 0, .int .u8 0, .int .u8 0], .int .i64 10]) ?hres rfl ?hpost
    case hres => simp [results, Try.results13, go_sem, r0, r1, r2, r3, r4]
    case hpost => exact ⟨rfl, hlow⟩
  | true =>
    rw [hR] at HR
    cases hr : recB r with
    | false =>
      have hE : cmpE u r s = 11 := by rw [cmpE, if_neg (by rw [hR]; decide), if_pos (.inl hr)]
      rw [cmpM_bad (by rw [hE]; decide), hE]
      rw [hr] at HA
      clear hE
      go_enter Try.func13, Try.ntmps13
      go_upto_region 1 with fail
      generalize (((w.alloc (.cells #[.int .i64 u.l, .int .i64 u.d, .int .i64 u.y, .int .i64 u.t] 23)).alloc (.cells #[.int .i64 r.id, .slice A r.names.length c, .int .u8 r.suf, .int .i64 r.lo, .int .i64 r.hi, .string r.num, .bool r.twin, .slice D r.stays.length d] 29)).alloc (.cells #[.int .i64 s.id, .slice A' s.names.length c', .int .u8 s.suf, .int .i64 s.lo, .int .i64 s.hi, .string s.num, .bool s.twin, .slice D' s.stays.length d'] 29)).alloc (.cells #[.int .u8 0, .int .u8 0, .int .u8 0, .int .u8 0, .int .u8 0] 42) = W0 at *
      have c0 := k0.cell
      go_wp2_with (first | (go_at_call 18; refine (HR.out _).mono ?_; rintro e w1 ⟨rfl, e1⟩; have q1 := (k1.below e1 k1.lt).cell; have q2 := (k2.below e1 k2.lt).cell; have q3 := (k3.below e1 k3.lt).cell; have f3 := (k3.below e1 k3.lt).free; have q0 := (k0.below e1 k0.lt).cell; have hw := b0.trans (e1.mono b0.size)) | (go_at_call 19; with_reducible refine (HA.out _ (Hr.later e1)).mono ?_; rintro e w2 ⟨rfl, hb2⟩; have e2 : Below W0.heap.size W0 w2 := e1.trans (hb2.mono e1.size); have p0 := (k0.below e2 k0.lt).cell; have p1 := (k1.below e2 k1.lt).cell; have p2 := (k2.below e2 k2.lt).cell; have p3 := (k3.below e2 k3.lt).cell; have g3 := (k3.below e2 k3.lt).free))
      have q3 := p3
      have hfin : ∀ i, i < 5 → ((((((w2).setCell ⟨w.heap.size + 1 + 1 + 1, 0, none⟩ (.int .u8 0)).setCell ⟨w.heap.size + 1 + 1 + 1, 1, none⟩ (.int .u8 0)).setCell ⟨w.heap.size + 1 + 1 + 1, 2, none⟩ (.int .u8 0)).setCell ⟨w.heap.size + 1 + 1 + 1, 3, none⟩ (.int .u8 0)).setCell ⟨w.heap.size + 1 + 1 + 1, 4, none⟩ (.int .u8 0)).cell? ⟨w.heap.size + 1 + 1 + 1, i, none⟩ = (#[.int .u8 0, .int .u8 0, .int .u8 0, .int .u8 0, .int .u8 0] : Array Value)[i]? := fun i hi => stored5 ⟨q3 0, q3 1, q3 2, q3 3, q3 4⟩ i hi
      have hlow : Below w.heap.size w ((((((w2).setCell ⟨w.heap.size + 1 + 1 + 1, 0, none⟩ (.int .u8 0)).setCell ⟨w.heap.size + 1 + 1 + 1, 1, none⟩ (.int .u8 0)).setCell ⟨w.heap.size + 1 + 1 + 1, 2, none⟩ (.int .u8 0)).setCell ⟨w.heap.size + 1 + 1 + 1, 3, none⟩ (.int .u8 0)).setCell ⟨w.heap.size + 1 + 1 + 1, 4, none⟩ (.int .u8 0)) := below_set5 (b0.trans (e2.mono b0.size)) (by omega) _ _ _ _ _
      generalize (((((w2).setCell ⟨w.heap.size + 1 + 1 + 1, 0, none⟩ (.int .u8 0)).setCell ⟨w.heap.size + 1 + 1 + 1, 1, none⟩ (.int .u8 0)).setCell ⟨w.heap.size + 1 + 1 + 1, 2, none⟩ (.int .u8 0)).setCell ⟨w.heap.size + 1 + 1 + 1, 3, none⟩ (.int .u8 0)).setCell ⟨w.heap.size + 1 + 1 + 1, 4, none⟩ (.int .u8 0) = Wf at *
      have r0 := hfin 0 (by omega)
      have r1 := hfin 1 (by omega)
      have r2 := hfin 2 (by omega)
      have r3 := hfin 3 (by omega)
      have r4 := hfin 4 (by omega)
      clear hfin
      refine bodyPost_ret (v := .tuple #[.agg #[.int .u8 0, .int .u8 0, .int .u8 0, .int .u8 0, .int .u8 0], .int .i64 11]) ?hres rfl ?hpost
      case hres => simp [results, Try.results13, go_sem, r0, r1, r2, r3, r4]
      case hpost => exact ⟨rfl, hlow⟩
    | true =>
      rw [hr] at HA
      cases hs : recB s with
      | false =>
        have hE : cmpE u r s = 11 := by rw [cmpE, if_neg (by rw [hR]; decide), if_pos (.inr hs)]
        rw [cmpM_bad (by rw [hE]; decide), hE]
        rw [hs] at HB
        clear hE
        go_enter Try.func13, Try.ntmps13
        go_upto_region 1 with fail
        generalize (((w.alloc (.cells #[.int .i64 u.l, .int .i64 u.d, .int .i64 u.y, .int .i64 u.t] 23)).alloc (.cells #[.int .i64 r.id, .slice A r.names.length c, .int .u8 r.suf, .int .i64 r.lo, .int .i64 r.hi, .string r.num, .bool r.twin, .slice D r.stays.length d] 29)).alloc (.cells #[.int .i64 s.id, .slice A' s.names.length c', .int .u8 s.suf, .int .i64 s.lo, .int .i64 s.hi, .string s.num, .bool s.twin, .slice D' s.stays.length d'] 29)).alloc (.cells #[.int .u8 0, .int .u8 0, .int .u8 0, .int .u8 0, .int .u8 0] 42) = W0 at *
        have c0 := k0.cell
        go_wp2_with (first | (go_at_call 18; refine (HR.out _).mono ?_; rintro e w1 ⟨rfl, e1⟩; have q1 := (k1.below e1 k1.lt).cell; have q2 := (k2.below e1 k2.lt).cell; have q3 := (k3.below e1 k3.lt).cell; have f3 := (k3.below e1 k3.lt).free; have q0 := (k0.below e1 k0.lt).cell; have hw := b0.trans (e1.mono b0.size)) | (go_at_call 19; with_reducible refine (HA.out _ (Hr.later e1)).mono ?_; rintro e w2 ⟨rfl, hb2⟩; have e2 : Below W0.heap.size W0 w2 := e1.trans (hb2.mono e1.size); have p0 := (k0.below e2 k0.lt).cell; have p1 := (k1.below e2 k1.lt).cell; have p2 := (k2.below e2 k2.lt).cell; have p3 := (k3.below e2 k3.lt).cell; have g3 := (k3.below e2 k3.lt).free) | (go_at_call 19; with_reducible refine (HB.out _ (Hs.later e2)).mono ?_; rintro e w3 ⟨rfl, hb3⟩; have e3 : Below W0.heap.size W0 w3 := e2.trans (hb3.mono e2.size); have s0 := (k0.below e3 k0.lt).cell; have s1 := (k1.below e3 k1.lt).cell; have s2 := (k2.below e3 k2.lt).cell; have s3 := (k3.below e3 k3.lt).cell; have h3 := (k3.below e3 k3.lt).free))
        have q3 := s3
        have hfin : ∀ i, i < 5 → ((((((w3).setCell ⟨w.heap.size + 1 + 1 + 1, 0, none⟩ (.int .u8 0)).setCell ⟨w.heap.size + 1 + 1 + 1, 1, none⟩ (.int .u8 0)).setCell ⟨w.heap.size + 1 + 1 + 1, 2, none⟩ (.int .u8 0)).setCell ⟨w.heap.size + 1 + 1 + 1, 3, none⟩ (.int .u8 0)).setCell ⟨w.heap.size + 1 + 1 + 1, 4, none⟩ (.int .u8 0)).cell? ⟨w.heap.size + 1 + 1 + 1, i, none⟩ = (#[.int .u8 0, .int .u8 0, .int .u8 0, .int .u8 0, .int .u8 0] : Array Value)[i]? := fun i hi => stored5 ⟨q3 0, q3 1, q3 2, q3 3, q3 4⟩ i hi
        have hlow : Below w.heap.size w ((((((w3).setCell ⟨w.heap.size + 1 + 1 + 1, 0, none⟩ (.int .u8 0)).setCell ⟨w.heap.size + 1 + 1 + 1, 1, none⟩ (.int .u8 0)).setCell ⟨w.heap.size + 1 + 1 + 1, 2, none⟩ (.int .u8 0)).setCell ⟨w.heap.size + 1 + 1 + 1, 3, none⟩ (.int .u8 0)).setCell ⟨w.heap.size + 1 + 1 + 1, 4, none⟩ (.int .u8 0)) := below_set5 (b0.trans (e3.mono b0.size)) (by omega) _ _ _ _ _
        generalize (((((w3).setCell ⟨w.heap.size + 1 + 1 + 1, 0, none⟩ (.int .u8 0)).setCell ⟨w.heap.size + 1 + 1 + 1, 1, none⟩ (.int .u8 0)).setCell ⟨w.heap.size + 1 + 1 + 1, 2, none⟩ (.int .u8 0)).setCell ⟨w.heap.size + 1 + 1 + 1, 3, none⟩ (.int .u8 0)).setCell ⟨w.heap.size + 1 + 1 + 1, 4, none⟩ (.int .u8 0) = Wf at *
        have r0 := hfin 0 (by omega)
        have r1 := hfin 1 (by omega)
        have r2 := hfin 2 (by omega)
        have r3 := hfin 3 (by omega)
        have r4 := hfin 4 (by omega)
        clear hfin
        refine bodyPost_ret (v := .tuple #[.agg #[.int .u8 0, .int .u8 0, .int .u8 0, .int .u8 0, .int .u8 0], .int .i64 11]) ?hres rfl ?hpost
        case hres => simp [results, Try.results13, go_sem, r0, r1, r2, r3, r4]
        case hpost => exact ⟨rfl, hlow⟩
      | true =>
        have hE : cmpE u r s = 0 := by rw [cmpE, if_neg (by rw [hR]; decide), if_neg (by rw [hr, hs]; decide)]
        rw [cmpM_good hE, hE]
        rw [hs] at HB
        have HC := Lib.hid (fun W h1 h2 => refCompare_in u r s A A' D D' c c' d d' W h1 h2 hr hs hc hc')
        generalize matF u r s = M at HC ⊢
        clear hE
        go_enter Try.func13, Try.ntmps13
        go_upto_region 1 with fail
        generalize (((w.alloc (.cells #[.int .i64 u.l, .int .i64 u.d, .int .i64 u.y, .int .i64 u.t] 23)).alloc (.cells #[.int .i64 r.id, .slice A r.names.length c, .int .u8 r.suf, .int .i64 r.lo, .int .i64 r.hi, .string r.num, .bool r.twin, .slice D r.stays.length d] 29)).alloc (.cells #[.int .i64 s.id, .slice A' s.names.length c', .int .u8 s.suf, .int .i64 s.lo, .int .i64 s.hi, .string s.num, .bool s.twin, .slice D' s.stays.length d'] 29)).alloc (.cells #[.int .u8 0, .int .u8 0, .int .u8 0, .int .u8 0, .int .u8 0] 42) = W0 at *
        have c0 := k0.cell
        go_wp2_with (first | (go_at_call 18; refine (HR.out _).mono ?_; rintro e w1 ⟨rfl, e1⟩; have q1 := (k1.below e1 k1.lt).cell; have q2 := (k2.below e1 k2.lt).cell; have q3 := (k3.below e1 k3.lt).cell; have f3 := (k3.below e1 k3.lt).free; have q0 := (k0.below e1 k0.lt).cell; have hw := b0.trans (e1.mono b0.size)) | (go_at_call 19; with_reducible refine (HA.out _ (Hr.later e1)).mono ?_; rintro e w2 ⟨rfl, hb2⟩; have e2 : Below W0.heap.size W0 w2 := e1.trans (hb2.mono e1.size); have p0 := (k0.below e2 k0.lt).cell; have p1 := (k1.below e2 k1.lt).cell; have p2 := (k2.below e2 k2.lt).cell; have p3 := (k3.below e2 k3.lt).cell; have g3 := (k3.below e2 k3.lt).free) | (go_at_call 19; with_reducible refine (HB.out _ (Hs.later e2)).mono ?_; rintro e w3 ⟨rfl, hb3⟩; have e3 : Below W0.heap.size W0 w3 := e2.trans (hb3.mono e2.size); have s0 := (k0.below e3 k0.lt).cell; have s1 := (k1.below e3 k1.lt).cell; have s2 := (k2.below e3 k2.lt).cell; have s3 := (k3.below e3 k3.lt).cell; have h3 := (k3.below e3 k3.lt).free) | (go_at_call 22; refine (HC.out _ (Hr.later e3) (Hs.later e3)).mono ?_; rintro e w4 ⟨rfl, hb4⟩; have e4 : Below W0.heap.size W0 w4 := e3.trans (hb4.mono e3.size); have t3 := (k3.below e4 k3.lt).cell; have u3 := (k3.below e4 k3.lt).free))
        have q3 := t3
        have hfin : ∀ i, i < 5 → ((((((w4).setCell ⟨w.heap.size + 1 + 1 + 1, 0, none⟩ (.int .u8 M.names)).setCell ⟨w.heap.size + 1 + 1 + 1, 1, none⟩ (.int .u8 M.num)).setCell ⟨w.heap.size + 1 + 1 + 1, 2, none⟩ (.int .u8 M.born)).setCell ⟨w.heap.size + 1 + 1 + 1, 3, none⟩ (.int .u8 M.place)).setCell ⟨w.heap.size + 1 + 1 + 1, 4, none⟩ (.int .u8 M.one)).cell? ⟨w.heap.size + 1 + 1 + 1, i, none⟩ = (#[.int .u8 M.names, .int .u8 M.num, .int .u8 M.born, .int .u8 M.place, .int .u8 M.one] : Array Value)[i]? := fun i hi => stored5 ⟨q3 0, q3 1, q3 2, q3 3, q3 4⟩ i hi
        have hlow : Below w.heap.size w ((((((w4).setCell ⟨w.heap.size + 1 + 1 + 1, 0, none⟩ (.int .u8 M.names)).setCell ⟨w.heap.size + 1 + 1 + 1, 1, none⟩ (.int .u8 M.num)).setCell ⟨w.heap.size + 1 + 1 + 1, 2, none⟩ (.int .u8 M.born)).setCell ⟨w.heap.size + 1 + 1 + 1, 3, none⟩ (.int .u8 M.place)).setCell ⟨w.heap.size + 1 + 1 + 1, 4, none⟩ (.int .u8 M.one)) := below_set5 (b0.trans (e4.mono b0.size)) (by omega) _ _ _ _ _
        generalize (((((w4).setCell ⟨w.heap.size + 1 + 1 + 1, 0, none⟩ (.int .u8 M.names)).setCell ⟨w.heap.size + 1 + 1 + 1, 1, none⟩ (.int .u8 M.num)).setCell ⟨w.heap.size + 1 + 1 + 1, 2, none⟩ (.int .u8 M.born)).setCell ⟨w.heap.size + 1 + 1 + 1, 3, none⟩ (.int .u8 M.place)).setCell ⟨w.heap.size + 1 + 1 + 1, 4, none⟩ (.int .u8 M.one) = Wf at *
        have r0 := hfin 0 (by omega)
        have r1 := hfin 1 (by omega)
        have r2 := hfin 2 (by omega)
        have r3 := hfin 3 (by omega)
        have r4 := hfin 4 (by omega)
        clear hfin
        refine bodyPost_ret (v := .tuple #[.agg #[.int .u8 M.names, .int .u8 M.num, .int .u8 M.born, .int .u8 M.place, .int .u8 M.one], .int .i64 0]) ?hres rfl ?hpost
        case hres => simp [results, Try.results13, go_sem, r0, r1, r2, r3, r4]
        case hpost => exact ⟨rfl, hlow⟩

end Go.Proofs.Ytmnkcblopbjiaaa
