/- For every rules and two records the law on what is told apart returns true, and each argument reads afterwards as it read before. No condition. -/
import Derived.Test.YtkmhnomdfgnohaaGreatAlive
import Derived.Test.YtkmhnomdfgnohaaGreatMore
import Derived.Test.YtkmhnomdfgnohaaGreatOpen
import Derived.Test.YtkmhnomdfgnohaaGreatTwinC
namespace Go.Proofs.YtkmhnomdfgnohaaGreat
open Go.RowKit

def farB (u : Rul) (r s : Rec) : Bool := decide (r.hi < s.lo - u.y) || decide (s.hi < r.lo - u.y)
def sfxB (r s : Rec) : Bool := decide (r.suf + s.suf = 3) && !(decide (r.suf = s.suf)) && !(decide (r.suf = 0)) && !(decide (s.suf = 0))
def ndB (r s : Rec) : Bool := r.num.toList.isEmpty || !(r.num.toList == s.num.toList)

structure ApFacts (u : Rul) (r s : Rec) (M : Mat) (no : Int) : Prop where
  lo : 0 ≤ M.one
  hi : M.one ≤ 2
  one : (farB u r s || sfxB r s) = true → M.one = 0
  twn : (r.twin = true ∨ s.twin = true) → ndB r s = true → M.names ≠ 3 → M.one = 0
  sure : M.one = 2 → ndB r s = true → M.names = 3 ∧ r.lo = s.lo ∧ r.hi = s.hi ∧ r.lo = r.hi ∧ r.twin = false ∧ s.twin = false
  less : no ≤ M.one

theorem apFacts {u : Rul} {r s : Rec} (hR : rulesB u.l u.d u.y u.t = true) (hr : recB r = true) (hs : recB s = true) : ApFacts u r s (matF u r s) (matF u (lone r) s).one := by
  have hy : 0 ≤ u.y := by simp only [rulesB, inB, Bool.and_eq_true, decide_eq_true_eq] at hR; omega
  have hnd : ndB r s = true → (matF u r s).num ≠ 3 := fun h => num_of hr hs (by simp only [ndB, Bool.or_eq_true, Bool.not_eq_true'] at h; exact h)
  refine ⟨(one_range u r s).1, (one_range u r s).2, fun h => ?_, fun h1 h2 h3 => one_twin h1 (hnd h2) h3, fun h1 h2 => one_sure h1 (hnd h2), (matF_lone u r s).2.1⟩
  simp only [Bool.or_eq_true] at h
  rcases h with h | h
  · simp only [farB, Bool.or_eq_true, decide_eq_true_eq] at h
    exact one_far hy h
  · simp only [sfxB, Bool.and_eq_true, Bool.not_eq_true', decide_eq_false_iff_not] at h
    exact one_suffix h.1.2 h.2 h.1.1.2
theorem far_t {u : Rul} {r s : Rec} (h : r.hi < s.lo - u.y) : true = farB u r s := by simp [farB, h]
theorem far_f {u : Rul} {r s : Rec} (h : s.lo - u.y ≤ r.hi) : decide (s.hi < r.lo - u.y) = farB u r s := by
  have h' : ¬ r.hi < s.lo - u.y := by omega
  simp [farB, h']
theorem sfx_t {r s : Rec} (h1 : r.suf + s.suf = 3) (h2 : ¬ r.suf = s.suf) (h3 : ¬ r.suf = 0) : (s.suf != 0) = sfxB r s := by
  simp [sfxB, h1, h2, h3, bne]; rfl
theorem sfx_1 {r s : Rec} (h : ¬ r.suf + s.suf = 3) : false = sfxB r s := by simp [sfxB, h]
theorem sfx_2 {r s : Rec} (h : r.suf = s.suf) : false = sfxB r s := by simp [sfxB, h]
theorem sfx_3 {r s : Rec} (h : r.suf = 0) : false = sfxB r s := by simp [sfxB, h]


theorem recB_nm {r : Rec} (h : recB r = true) : r.names.length ≤ 5 := by
  have := (recB_parts h).1
  simp only [namesB, inB, Bool.and_eq_true, decide_eq_true_eq] at this
  omega
theorem recB_stays' {r : Rec} (h : recB r = true) : r.stays.length ≤ 6 := by
  have := (recB_parts h).2.2.2.2.2
  simp only [staysB, Bool.and_eq_true, decide_eq_true_eq] at this
  omega
theorem boolInt (b : Bool) : ∃ P : Int, b = decide (P = 1) := by
  cases b
  · exact ⟨0, rfl⟩
  · exact ⟨1, rfl⟩
structure ApBounds (u : Rul) (r s : Rec) : Prop where
  y0 : 0 ≤ u.y
  y1 : u.y ≤ 1000
  r0 : 0 ≤ r.lo
  r1 : r.lo ≤ 100000
  r2 : 0 ≤ r.hi
  r3 : r.hi ≤ 100000
  s0 : 0 ≤ s.lo
  s1 : s.lo ≤ 100000
  s2 : 0 ≤ s.hi
  s3 : s.hi ≤ 100000
  f : r.suf ≤ 2
  g : s.suf ≤ 2
theorem apBounds {u : Rul} {r s : Rec} (hR : rulesB u.l u.d u.y u.t = true) (hr : recB r = true) (hs : recB s = true) : ApBounds u r s := by
  simp only [rulesB, inB, Bool.and_eq_true, decide_eq_true_eq] at hR
  obtain ⟨_, a1, a2, a3, _⟩ := recB_parts hr
  obtain ⟨_, b1, b2, b3, _⟩ := recB_parts hs
  exact ⟨by omega, by omega, by omega, by omega, by omega, by omega, by omega, by omega, by omega, by omega, a1, b1⟩

set_option maxRecDepth 100000 in
set_option maxHeartbeats 4000000 in
theorem matchApart_any (u : Rul) (r s : Rec) (A A' D D' : Option Addr) (c c' d d' : Nat) (w : World) (hsr : 0 ≤ r.suf) (hss : 0 ≤ s.suf) (h : RecAt w w.heap.size A D r) (h' : RecAt w w.heap.size A' D' s) (hc : r.names.length ≤ c) (hc' : s.names.length ≤ c') :
    Calls Tryz.prog 5 #[.agg #[.int .i64 u.l, .int .i64 u.d, .int .i64 u.y, .int .i64 u.t], .agg #[.int .i64 r.id, .slice A r.names.length c, .int .u8 r.suf, .int .i64 r.lo, .int .i64 r.hi, .string r.num, .bool r.twin, .slice D r.stays.length d], .agg #[.int .i64 s.id, .slice A' s.names.length c', .int .u8 s.suf, .int .i64 s.lo, .int .i64 s.hi, .string s.num, .bool s.twin, .slice D' s.stays.length d']] w fun e w' => e = .returned (.bool true) ∧ Below w.heap.size w w' := by
  have b0 : Below w.heap.size w (((w.alloc (.cells #[.int .i64 u.l, .int .i64 u.d, .int .i64 u.y, .int .i64 u.t] 23)).alloc (.cells #[.int .i64 r.id, .slice A r.names.length c, .int .u8 r.suf, .int .i64 r.lo, .int .i64 r.hi, .string r.num, .bool r.twin, .slice D r.stays.length d] 47)).alloc (.cells #[.int .i64 s.id, .slice A' s.names.length c', .int .u8 s.suf, .int .i64 s.lo, .int .i64 s.hi, .string s.num, .bool s.twin, .slice D' s.stays.length d'] 47)) := (((Below.refl _ _).alloc (Nat.le_refl _) _).alloc (by simp) _).alloc (by simp; omega) _
  have k0 := ((Blk.new w #[.int .i64 u.l, .int .i64 u.d, .int .i64 u.y, .int .i64 u.t] 23).alloc (.cells #[.int .i64 r.id, .slice A r.names.length c, .int .u8 r.suf, .int .i64 r.lo, .int .i64 r.hi, .string r.num, .bool r.twin, .slice D r.stays.length d] 47)).alloc (.cells #[.int .i64 s.id, .slice A' s.names.length c', .int .u8 s.suf, .int .i64 s.lo, .int .i64 s.hi, .string s.num, .bool s.twin, .slice D' s.stays.length d'] 47)
  have k1 := (Blk.new (w.alloc (.cells #[.int .i64 u.l, .int .i64 u.d, .int .i64 u.y, .int .i64 u.t] 23)) #[.int .i64 r.id, .slice A r.names.length c, .int .u8 r.suf, .int .i64 r.lo, .int .i64 r.hi, .string r.num, .bool r.twin, .slice D r.stays.length d] 47).alloc (.cells #[.int .i64 s.id, .slice A' s.names.length c', .int .u8 s.suf, .int .i64 s.lo, .int .i64 s.hi, .string s.num, .bool s.twin, .slice D' s.stays.length d'] 47)
  have k2 := Blk.new ((w.alloc (.cells #[.int .i64 u.l, .int .i64 u.d, .int .i64 u.y, .int .i64 u.t] 23)).alloc (.cells #[.int .i64 r.id, .slice A r.names.length c, .int .u8 r.suf, .int .i64 r.lo, .int .i64 r.hi, .string r.num, .bool r.twin, .slice D r.stays.length d] 47)) #[.int .i64 s.id, .slice A' s.names.length c', .int .u8 s.suf, .int .i64 s.lo, .int .i64 s.hi, .string s.num, .bool s.twin, .slice D' s.stays.length d'] 47
  simp only [World.size_alloc] at k1 k2
  have Hr := h.later b0
  have Hs := h'.later b0
  have HQ := Lib.hid (fun W => alive_any W)
  have HG := Lib.hid (fun W => refRules_below u.l u.d u.y u.t W)
  have HA := Lib.hid (fun W hh => refRecord_any A D c d r W hh)
  have HB := Lib.hid (fun W hh => refRecord_any A' D' c' d' s W hh)
  clear h h'
  cases hR : rulesB u.l u.d u.y u.t with
  | false =>
    rw [hR] at HG
    go_enter Tryz.func5, Tryz.ntmps5
    go_upto_region 1 with fail
    generalize ((w.alloc (.cells #[.int .i64 u.l, .int .i64 u.d, .int .i64 u.y, .int .i64 u.t] 23)).alloc (.cells #[.int .i64 r.id, .slice A r.names.length c, .int .u8 r.suf, .int .i64 r.lo, .int .i64 r.hi, .string r.num, .bool r.twin, .slice D r.stays.length d] 47)).alloc (.cells #[.int .i64 s.id, .slice A' s.names.length c', .int .u8 s.suf, .int .i64 s.lo, .int .i64 s.hi, .string s.num, .bool s.twin, .slice D' s.stays.length d'] 47) = W0 at *
    go_wp2_with (first | (go_at_call 19; (with_reducible refine (HQ.out _).mono ?_); rintro e w1 ⟨rfl, h1⟩; have c0 := (k0.below h1 k0.lt).cell) | (go_at_call 20; (with_reducible refine (HG.out _).mono ?_); rintro e w2 ⟨rfl, h2⟩; have e2 := h1.trans (h2.mono h1.size); have c1 := (k1.below e2 k1.lt).cell))
    go_ret
    exact ⟨rfl, b0.trans (e2.mono b0.size)⟩
  | true =>
    rw [hR] at HG
    cases hrB : recB r with
    | false =>
      rw [hrB] at HA
      go_enter Tryz.func5, Tryz.ntmps5
      go_upto_region 1 with fail
      generalize ((w.alloc (.cells #[.int .i64 u.l, .int .i64 u.d, .int .i64 u.y, .int .i64 u.t] 23)).alloc (.cells #[.int .i64 r.id, .slice A r.names.length c, .int .u8 r.suf, .int .i64 r.lo, .int .i64 r.hi, .string r.num, .bool r.twin, .slice D r.stays.length d] 47)).alloc (.cells #[.int .i64 s.id, .slice A' s.names.length c', .int .u8 s.suf, .int .i64 s.lo, .int .i64 s.hi, .string s.num, .bool s.twin, .slice D' s.stays.length d'] 47) = W0 at *
      go_wp2_with (first | (go_at_call 19; (with_reducible refine (HQ.out _).mono ?_); rintro e w1 ⟨rfl, h1⟩; have c0 := (k0.below h1 k0.lt).cell) | (go_at_call 20; (with_reducible refine (HG.out _).mono ?_); rintro e w2 ⟨rfl, h2⟩; have e2 := h1.trans (h2.mono h1.size); have c1 := (k1.below e2 k1.lt).cell) | (go_at_call 21; (with_reducible refine (HA.out _ (Hr.later e2)).mono ?_); rintro e w3 ⟨rfl, h3⟩; have e3 := e2.trans (h3.mono e2.size); have c2 := (k2.below e3 k2.lt).cell))
      go_ret
      exact ⟨rfl, b0.trans (e3.mono b0.size)⟩
    | true =>
      rw [hrB] at HA
      cases hsB : recB s with
      | false =>
        rw [hsB] at HB
        go_enter Tryz.func5, Tryz.ntmps5
        go_upto_region 1 with fail
        generalize ((w.alloc (.cells #[.int .i64 u.l, .int .i64 u.d, .int .i64 u.y, .int .i64 u.t] 23)).alloc (.cells #[.int .i64 r.id, .slice A r.names.length c, .int .u8 r.suf, .int .i64 r.lo, .int .i64 r.hi, .string r.num, .bool r.twin, .slice D r.stays.length d] 47)).alloc (.cells #[.int .i64 s.id, .slice A' s.names.length c', .int .u8 s.suf, .int .i64 s.lo, .int .i64 s.hi, .string s.num, .bool s.twin, .slice D' s.stays.length d'] 47) = W0 at *
        go_wp2_with (first | (go_at_call 19; (with_reducible refine (HQ.out _).mono ?_); rintro e w1 ⟨rfl, h1⟩; have c0 := (k0.below h1 k0.lt).cell) | (go_at_call 20; (with_reducible refine (HG.out _).mono ?_); rintro e w2 ⟨rfl, h2⟩; have e2 := h1.trans (h2.mono h1.size); have c1 := (k1.below e2 k1.lt).cell) | (go_at_call 21; (with_reducible refine (HA.out _ (Hr.later e2)).mono ?_); rintro e w3 ⟨rfl, h3⟩; have e3 := e2.trans (h3.mono e2.size); have c2 := (k2.below e3 k2.lt).cell) | (go_at_call 21; (with_reducible refine (HB.out _ (Hs.later e3)).mono ?_); rintro e w4 ⟨rfl, h4⟩; have e4 := e3.trans (h4.mono e3.size)))
        go_ret
        exact ⟨rfl, b0.trans (e4.mono b0.size)⟩
      | true =>
        rw [hsB] at HB
        have hE : cmpE u r s = 0 := by simp [cmpE, hR, hrB, hsB]
        have hE2 : cmpE u (lone r) s = 0 := by simp [cmpE, hR, lone_recB hrB, hsB]
        have HC := Lib.hid (fun W ha hb => (cmpM_good hE) ▸ hE ▸ compare_any u r s A A' D D' c c' d d' W hsr hss ha hb hc hc')
        have HN := Lib.hid (fun W A1 c1 h1 ha hb => (cmpM_good hE2) ▸ hE2 ▸ compare_any u (lone r) s A1 A' none D' c1 c' 0 d' W hsr hss ha hb h1 hc')
        have HF := Lib.hid (apFacts hR hrB hsB)
        have HT := Lib.hid (fun W hh => twin_in A D c d r W hh (by have := (recB_nm hrB); omega) (by have := (recB_stays' hrB); omega))
        have hbd := apBounds hR hrB hsB
        obtain ⟨n0, _, n2, n3, n4⟩ := matF_lone u r s
        rw [n0, n2, n3, n4] at HN
        clear n0 n2 n3 n4 hE hE2
        generalize (matF u (lone r) s).one = no at HN HF
        generalize matF u r s = M at *
        have HL : Hid (∀ W A1 c1, r.names.length ≤ c1 → RecAt W W.heap.size A1 none (lone r) → RecAt W W.heap.size A' D' s → Calls Tryz.prog 23 #[.agg #[.int .i64 u.l, .int .i64 u.d, .int .i64 u.y, .int .i64 u.t], .agg #[.int .i64 r.id, .slice A1 r.names.length c1, .int .u8 r.suf, .int .i64 r.lo, .int .i64 r.hi, .string r.num, .bool r.twin, .slice none 0 0], .agg #[.int .i64 s.id, .slice A' s.names.length c', .int .u8 s.suf, .int .i64 s.lo, .int .i64 s.hi, .string s.num, .bool s.twin, .slice D' s.stays.length d']] W fun e w' => e = .returned (.tuple #[.agg #[.int .u8 M.names, .int .u8 M.num, .int .u8 M.born, .int .u8 1, .int .u8 no], .int .i64 0]) ∧ Below W.heap.size W w') := Lib.hid (fun W A1 c1 h1 ha hb => HN.out W A1 c1 h1 ha hb)
        clear HN
        go_enter Tryz.func5, Tryz.ntmps5
        go_upto_region 1 with fail
        generalize ((w.alloc (.cells #[.int .i64 u.l, .int .i64 u.d, .int .i64 u.y, .int .i64 u.t] 23)).alloc (.cells #[.int .i64 r.id, .slice A r.names.length c, .int .u8 r.suf, .int .i64 r.lo, .int .i64 r.hi, .string r.num, .bool r.twin, .slice D r.stays.length d] 47)).alloc (.cells #[.int .i64 s.id, .slice A' s.names.length c', .int .u8 s.suf, .int .i64 s.lo, .int .i64 s.hi, .string s.num, .bool s.twin, .slice D' s.stays.length d'] 47) = W0 at *
        go_upto_region 6 with (first | (go_at_call 19; (with_reducible refine (HQ.out _).mono ?_); rintro e w1 ⟨rfl, h1⟩; have c0 := (k0.below h1 k0.lt).cell) | (go_at_call 20; (with_reducible refine (HG.out _).mono ?_); rintro e w2 ⟨rfl, h2⟩; have e2 := h1.trans (h2.mono h1.size); have c1 := (k1.below e2 k1.lt).cell) | (go_at_call 21; (with_reducible refine (HA.out _ (Hr.later e2)).mono ?_); rintro e w3 ⟨rfl, h3⟩; have e3 := e2.trans (h3.mono e2.size); have c2 := (k2.below e3 k2.lt).cell) | (go_at_call 21; (with_reducible refine (HB.out _ (Hs.later e3)).mono ?_); rintro e w4 ⟨rfl, h4⟩; have e4 := e3.trans (h4.mono e3.size)))
        have rV := Hr.later e4
        have sV := Hs.later e4
        have K0 := k0.below e4 k0.lt
        have K1 := k1.below e4 k1.lt
        have K2 := k2.below e4 k2.lt
        have hbV := b0.trans (e4.mono b0.size)
        clear k0 k1 k2 Hr Hs HQ HG HA HB b0 h1 h2 h3 h4 e2 e3 e4 c0 c1 c2 hR hrB hsB
        generalize w4 = V at *
        clear w1 w2 w3
        have c0 := K0.cell
        have c1 := K1.cell
        have c2 := K2.cell
        obtain ⟨m0, m2, f1, ft, f2, f3⟩ := HF.out
        have q2 : ¬ 2 < M.one := by omega
        go_upto_region 9 with (first
          | (go_at_call 23; (with_reducible refine (HC.out _ rV sV).mono ?_); rintro e w5 ⟨rfl, h5⟩))
        have E5 := h5.alloc h5.size (.cells #[.int .u8 M.names, .int .u8 M.num, .int .u8 M.born, .int .u8 M.place, .int .u8 M.one] 54)
        have B8 := Blk.new w5 #[.int .u8 M.names, .int .u8 M.num, .int .u8 M.born, .int .u8 M.place, .int .u8 M.one] 54
        have rV5 := rV.later E5
        have sV5 := sV.later E5
        have K05 := K0.below E5 K0.lt
        have K15 := K1.below E5 K1.lt
        have K25 := K2.below E5 K2.lt
        have hb5 := hbV.trans (E5.mono hbV.size)
        clear rV sV K0 K1 K2 hbV E5 h5 HC c0 c1 c2
        generalize w5.alloc (.cells #[.int .u8 M.names, .int .u8 M.num, .int .u8 M.born, .int .u8 M.place, .int .u8 M.one] 54) = V5 at *
        generalize w5.heap.size = b8 at *
        clear w5 V
        have c0 := K05.cell
        obtain ⟨P1, hP1⟩ := boolInt r.twin
        obtain ⟨P2, hP2⟩ := boolInt s.twin
        have c1 : ∀ i, V5.cell? ⟨w.heap.size + 1, i, none⟩ = (#[.int .i64 r.id, .slice A r.names.length c, .int .u8 r.suf, .int .i64 r.lo, .int .i64 r.hi, .string r.num, .bool (decide (P1 = 1)), .slice D r.stays.length d] : Array Value)[i]? := by rw [← hP1]; exact K15.cell
        have c2 : ∀ i, V5.cell? ⟨w.heap.size + 1 + 1, i, none⟩ = (#[.int .i64 s.id, .slice A' s.names.length c', .int .u8 s.suf, .int .i64 s.lo, .int .i64 s.hi, .string s.num, .bool (decide (P2 = 1)), .slice D' s.stays.length d'] : Array Value)[i]? := by rw [← hP2]; exact K25.cell
        have HP1 := Lib.hid hP1
        have HP2 := Lib.hid hP2
        clear hP1 hP2
        have c8 := B8.cell
        obtain ⟨y0, y1, r0, r1, r2, r3, s0, s1, s2, s3, sf, sg⟩ := hbd
        go_cut [10] (fun sx wx => sx = .bool (farB u r s) ∧ V5 = wx)
        case first =>
          as_aux_lemma =>
            clear f1 ft f2
            go_wp2_with fail
            all_goals go_meet
            all_goals first | exact ⟨congrArg Value.bool (far_t (by with_reducible assumption)), rfl⟩ | exact ⟨congrArg Value.bool (far_f (by with_reducible assumption)), rfl⟩
        case rest =>
          obtain ⟨rfl, rfl⟩ := hcut
          go_upto_region 10 with fail
          go_cut [11] (fun sx wx => sx = .bool (sfxB r s) ∧ V5 = wx)
          case first =>
            as_aux_lemma =>
              clear f1 ft f2
              go_wp2_with fail
              all_goals go_meet
              all_goals first | exact ⟨congrArg Value.bool (sfx_t (by with_reducible assumption) (by with_reducible assumption) (by with_reducible assumption)), rfl⟩ | exact ⟨congrArg Value.bool (sfx_1 (by with_reducible assumption)), rfl⟩ | exact ⟨congrArg Value.bool (sfx_2 (by with_reducible assumption)), rfl⟩ | exact ⟨congrArg Value.bool (sfx_3 (by with_reducible assumption)), rfl⟩
          case rest =>
            obtain ⟨rfl, rfl⟩ := hcut
            go_upto_region 11 with fail
            go_cut [12] (fun sx wx => ∃ F3 : Int, sx = .bool (decide (F3 = 1)) ∧ (F3 = 1 → M.one = 0) ∧ V5 = wx)
            case first =>
              as_aux_lemma =>
                clear f1 f2
                rw [HP1.out, HP2.out] at ft
                simp only [decide_eq_true_eq] at ft
                cases hn : ndB r s with
                | true =>
                  have hn0 := hn
                  simp only [ndB, Bool.or_eq_true, Bool.not_eq_true'] at hn
                  have hn1 : r.num.toList.isEmpty = true ∨ (r.num.toList.isEmpty = false ∧ (r.num.toList == s.num.toList) = false) := by
                    cases hq : r.num.toList.isEmpty with
                    | true => exact .inl rfl
                    | false => exact .inr ⟨rfl, hn.resolve_left (by simp [hq])⟩
                  clear hn
                  by_cases h3 : M.names = 3
                  · have h3b : (M.names != 3) = false := by simp [h3]
                    rcases hn1 with hn1 | ⟨hn1, hn2⟩
                    · go_wp2_with fail
                      all_goals go_meet
                      all_goals exact ⟨0, rfl, fun h => absurd h (by decide), rfl⟩
                    · go_wp2_with fail
                      all_goals go_meet
                      all_goals exact ⟨0, rfl, fun h => absurd h (by decide), rfl⟩
                  · have h3b : (M.names != 3) = true := by simp [h3]
                    rcases hn1 with hn1 | ⟨hn1, hn2⟩
                    · go_wp2_with fail
                      all_goals go_meet
                      all_goals first | exact ⟨0, rfl, fun h => absurd h (by decide), rfl⟩ | exact ⟨1, rfl, fun _ => ft (by first | exact .inl (by with_reducible assumption) | exact .inr (by with_reducible assumption)) hn0 h3, rfl⟩
                    · go_wp2_with fail
                      all_goals go_meet
                      all_goals first | exact ⟨0, rfl, fun h => absurd h (by decide), rfl⟩ | exact ⟨1, rfl, fun _ => ft (by first | exact .inl (by with_reducible assumption) | exact .inr (by with_reducible assumption)) hn0 h3, rfl⟩
                | false =>
                  simp only [ndB, Bool.or_eq_false_iff, Bool.not_eq_false'] at hn
                  obtain ⟨hn1, hn2⟩ := hn
                  go_wp2_with fail
                  all_goals go_meet
                  all_goals exact ⟨0, rfl, fun h => absurd h (by decide), rfl⟩
            case rest =>
              obtain ⟨F3, rfl, fq, rfl⟩ := hcut
              generalize farB u r s = fb at *
              generalize sfxB r s = sb at *
              obtain ⟨F1, rfl⟩ := boolInt fb
              obtain ⟨F2, rfl⟩ := boolInt sb
              clear ft
              go_upto_region 12 with fail
              go_cut [3, 4, 5, 7, 8, 126] from 0 to 126 (fun s3 s4 s5 s7 s8 sx wx => s3 = .pointer (some ⟨w.heap.size, 0, none⟩) ∧ s4 = .pointer (some ⟨w.heap.size + 1, 0, none⟩) ∧ s5 = .pointer (some ⟨w.heap.size + 1 + 1, 0, none⟩) ∧ s7 = .bool true ∧ s8 = .pointer (some ⟨b8, 0, none⟩) ∧ sx = .bool false ∧ V5 = wx)
              case first =>
                as_aux_lemma =>
                  by_cases q1 : F1 = 1
                  · have z0 : M.one = 0 := f1 (by simp [q1])
                    have z1 : (M.one != 0) = false := by simp [z0]
                    go_wp2_with fail
                    all_goals go_meet
                    all_goals (refine ⟨rfl, rfl, rfl, rfl, rfl, ?_, rfl⟩; rfl)
                  · by_cases q2' : F2 = 1
                    · have z0 : M.one = 0 := f1 (by simp [q2'])
                      have z1 : (M.one != 0) = false := by simp [z0]
                      go_wp2_with fail
                      all_goals go_meet
                      all_goals (refine ⟨rfl, rfl, rfl, rfl, rfl, ?_, rfl⟩; rfl)
                    · by_cases q3 : F3 = 1
                      · have z0 : M.one = 0 := fq q3
                        have z1 : (M.one != 0) = false := by simp [z0]
                        go_wp2_with fail
                        all_goals go_meet
                        all_goals (refine ⟨rfl, rfl, rfl, rfl, rfl, ?_, rfl⟩; rfl)
                      · go_wp2_with fail
                        all_goals go_meet
                        all_goals (refine ⟨rfl, rfl, rfl, rfl, rfl, ?_, rfl⟩; rfl)
              case rest =>
                obtain ⟨rfl, rfl, rfl, rfl, rfl, rfl, rfl⟩ := hcut
                go_upto_region 14 with fail
                go_cut [3, 4, 5, 7, 8, 170] from 0 to 170 (fun s3 s4 s5 s7 s8 sx wx => s3 = .pointer (some ⟨w.heap.size, 0, none⟩) ∧ s4 = .pointer (some ⟨w.heap.size + 1, 0, none⟩) ∧ s5 = .pointer (some ⟨w.heap.size + 1 + 1, 0, none⟩) ∧ s7 = .bool true ∧ s8 = .pointer (some ⟨b8, 0, none⟩) ∧ sx = .bool false ∧ V5 = wx)
                case first =>
                  as_aux_lemma =>
                    clear f1
                    by_cases hm : M.one = 2
                    · have hmb : (M.one == 2) = true := by simp [hm]
                      cases hn : ndB r s with
                      | true =>
                        obtain ⟨g1, g2, g3, g4, g5, g6⟩ := f2 hm hn
                        rw [HP1.out] at g5
                        rw [HP2.out] at g6
                        have g1b : (M.names != 3) = false := by simp [g1]
                        have g2b : (r.lo == s.lo) = true := by simp [g2]
                        have g3b : (r.hi == s.hi) = true := by simp [g3]
                        have g4b : (r.lo != r.hi) = false := by simp [g4]
                        have g5b : ¬ P1 = 1 := by simpa using g5
                        have g6b : ¬ P2 = 1 := by simpa using g6
                        simp only [ndB, Bool.or_eq_true, Bool.not_eq_true'] at hn
                        by_cases hn1 : r.num.toList.isEmpty = true
                        · clear hn
                          go_wp2_with fail
                          all_goals go_meet
                          all_goals (refine ⟨rfl, rfl, rfl, rfl, rfl, ?_, rfl⟩; rfl)
                        · have hn2 : (r.num.toList == s.num.toList) = false := hn.resolve_left hn1
                          clear hn
                          go_wp2_with fail
                          all_goals go_meet
                          all_goals (refine ⟨rfl, rfl, rfl, rfl, rfl, ?_, rfl⟩; rfl)
                      | false =>
                        simp only [ndB, Bool.or_eq_false_iff, Bool.not_eq_false'] at hn
                        obtain ⟨hn1, hn2⟩ := hn
                        go_wp2_with fail
                        all_goals go_meet
                        all_goals (refine ⟨rfl, rfl, rfl, rfl, rfl, ?_, rfl⟩; rfl)
                    · have hmb : (M.one == 2) = false := by simp [hm]
                      go_wp2_with fail
                      all_goals go_meet
                      all_goals (refine ⟨rfl, rfl, rfl, rfl, rfl, ?_, rfl⟩; rfl)
                case rest =>
                  obtain ⟨rfl, rfl, rfl, rfl, rfl, rfl, rfl⟩ := hcut
                  have HT2 := Lib.hid (HT.out _ rV5)
                  have c1r := K15.cell
                  have c2r := K25.cell
                  clear c1 c2 HT f1 fq f2 m0 m2 y0 y1 r0 r1 r2 r3 s0 s1 s2 s3 sf sg HP1 HP2 q2
                  go_upto_region 18 with (go_at_call 24; (with_reducible refine (HT2.out).mono ?_); rintro e w6 ⟨A1, cc1, D1, dd1, rfl, t1, h6, hc1⟩)
                  have E6 := h6.alloc h6.size (.cells #[.int .i64 r.id, .slice A1 r.names.length cc1, .int .u8 r.suf, .int .i64 r.lo, .int .i64 r.hi, .string r.num, .bool r.twin, .slice none 0 0] 47)
                  have BL := Blk.new w6 #[.int .i64 r.id, .slice A1 r.names.length cc1, .int .u8 r.suf, .int .i64 r.lo, .int .i64 r.hi, .string r.num, .bool r.twin, .slice none 0 0] 47
                  have tt := t1.at_ (W := w6.alloc (.cells #[.int .i64 r.id, .slice A1 r.names.length cc1, .int .u8 r.suf, .int .i64 r.lo, .int .i64 r.hi, .string r.num, .bool r.twin, .slice none 0 0] 47)) (fun b hlo hhi => Go.heap_alloc_old _ _ hhi) (by simp)
                  have sV7 := sV5.later E6
                  have K07 := K05.below E6 K05.lt
                  have K27 := K25.below E6 K25.lt
                  have B87 := B8.below E6 B8.lt
                  have hb7 := hb5.trans (E6.mono hb5.size)
                  clear E6 h6 t1 HT2 rV5 sV5 K05 K15 K25 B8 hb5 c0 c1r c2r c8
                  generalize w6.alloc (.cells #[.int .i64 r.id, .slice A1 r.names.length cc1, .int .u8 r.suf, .int .i64 r.lo, .int .i64 r.hi, .string r.num, .bool r.twin, .slice none 0 0] 47) = V7 at *
                  generalize w6.heap.size = b13 at *
                  clear w6 V5
                  have hL : RecAt V7 V7.heap.size A1 none (lone r) := ⟨tt.strs, fun k hk => absurd hk (by simp [lone]), tt.names_le, by simp [lone, maxLen], tt.num_le⟩
                  have y0 := K07.cell
                  have y2 := K27.cell
                  have y13 := BL.cell
                  have HL2 := Lib.hid (HL.out V7 A1 cc1 hc1 hL sV7)
                  clear HL hL sV7 tt
                  go_wp2_with (go_at_call 23; (with_reducible refine (HL2.out).mono ?_); rintro e w8 ⟨rfl, h8⟩; have y8 := ((B87.below h8 B87.lt).alloc (.cells #[.int .u8 M.names, .int .u8 M.num, .int .u8 M.born, .int .u8 1, .int .u8 no] 54)).cell; have y14 := (Blk.new w8 #[.int .u8 M.names, .int .u8 M.num, .int .u8 M.born, .int .u8 1, .int .u8 no] 54).cell)
                  go_ret
                  exact ⟨rfl, (hb7.trans (h8.mono hb7.size)).alloc (hb7.trans (h8.mono hb7.size)).size _⟩

section
open Go.ChangeShapes Go.WideShapes Go.ChangeAt Go.RowKit Go.Deep

theorem suf_nonneg {r : Rec} (h : RecWf r) : 0 ≤ r.suf := by
  have := h.suf
  simp [Lit.wf] at this
  have h0 : IntKind.u8.min = 0 := by decide
  omega

set_option maxRecDepth 100000 in
theorem matchApart_lifted (os : Os) (started : os.Started) (H : Type) (enc : TypeId × Value → H) :
    ReturnsInHanded {} Tryz.checked os 5 .any (Rows.matchApartSpec.pre6 enc Tryz.prog Tryz.f5 Rows.matchApartRow.domain false) (Rows.matchApartSpec.post enc Tryz.prog Tryz.f5 false true false false) := by
  refine returnsInHanded_of_change (C := Tryz.checked) Tryz.own started (by kernel_rfl) Tryz.func5
    (ChangeSpec.witness6 (enc := enc) (C := Tryz.checked) false ⟨#[], #[.agg #[.int .i64 0, .int .i64 0, .int .i64 0, .int .i64 0], .agg #[.int .i64 0, .slice none 0 0, .int .u8 0, .int .i64 0, .int .i64 0, .string ByteArray.empty, .bool false, .slice none 0 0], .agg #[.int .i64 0, .slice none 0 0, .int .u8 0, .int .i64 0, .int .i64 0, .string ByteArray.empty, .bool false, .slice none 0 0]], []⟩ 8 (by kernel_rfl) (by kernel_rfl) (by kernel_rfl) (by kernel_rfl)) ?_
  intro W base args ds gs before hval0 hW _ _
  have hval : ∀ (j : Nat) t v, Tryz.f5.params[j]? = some t → args[j]? = some v → Value.okWide Tryz.prog W .any base t v := hval0
  have hW' := hW
  obtain ⟨p, q, hA0, hV, rfl, _, _⟩ := hW
  have hA : DataW.TrodAll enc Tryz.prog W 0 (fun _ => true) true Tryz.f5.params.toList args.toList ds p := hA0
  rw [Tryz.params5] at hA hval
  obtain ⟨v0, v1, v2, d0, d1, d2, p0, p1, p2, rfl, rfl, rfl, h0, h1, h2⟩ := trodAll_three hA
  obtain ⟨rfl, rfl⟩ := trodVars_none hV
  have k0 := h0
  have k1 := h1
  have k2 := h2
  obtain ⟨cs0, rfl, _⟩ := okWide_struct Tryz.underlying23 (hval 0 23 v0 rfl rfl)
  obtain ⟨cs1, rfl, _⟩ := okWide_struct Tryz.underlying47 (hval 1 47 v1 rfl rfl)
  obtain ⟨cs2, rfl, _⟩ := okWide_struct Tryz.underlying47 (hval 2 47 v2 rfl rfl)
  obtain ⟨f0, hf0⟩ := h0
  obtain ⟨f1, hf1⟩ := h1
  obtain ⟨f2, hf2⟩ := h2
  obtain ⟨u, hu, _⟩ := rul_of_trod (show DataW.trod enc Tryz.prog W 0 (fun _ => true) true f0 23 cs0.toList = some (d0, p0) from hf0)
  obtain ⟨r, A, c, D, d, hr, hrec, hwf, hc⟩ := rec_of_trod (show DataW.trod enc Tryz.prog W 0 (fun _ => true) true f1 47 cs1.toList = some (d1, p1) from hf1)
  obtain ⟨s, A', c', D', d', hs, hrec', hwf', hc'⟩ := rec_of_trod (show DataW.trod enc Tryz.prog W 0 (fun _ => true) true f2 47 cs2.toList = some (d2, p2) from hf2)
  obtain rfl : cs0 = #[.int .i64 u.l, .int .i64 u.d, .int .i64 u.y, .int .i64 u.t] := by rw [← Array.toList_inj, hu]
  obtain rfl : cs1 = #[.int .i64 r.id, .slice A r.names.length c, .int .u8 r.suf, .int .i64 r.lo, .int .i64 r.hi, .string r.num, .bool r.twin, .slice D r.stays.length d] := by rw [← Array.toList_inj, hr]
  obtain rfl : cs2 = #[.int .i64 s.id, .slice A' s.names.length c', .int .u8 s.suf, .int .i64 s.lo, .int .i64 s.hi, .string s.num, .bool s.twin, .slice D' s.stays.length d'] := by rw [← Array.toList_inj, hs]
  clear hA0 hval0 hf0 hf1 hf2
  simp only [List.append_nil] at hW'
  have hlt : ∀ z ∈ p0 ++ p1 ++ p2, z.block < W.heap.size := fun z hz => by simpa using hW'.lt z hz
  refine (matchApart_any u r s A A' D D' c c' d d' W (suf_nonneg hwf) (suf_nonneg hwf') hrec hrec' hc hc').mono fun e W' ⟨he, hb⟩ => ?_
  subst he
  refine ⟨_, rfl, _, _, _, [], p0 ++ p1 ++ p2, [], hW', ?_, ?_, rfl, hb.frame _, fun h => by cases h⟩
  · exact trodAll_mk1 (shut_bool Tryz.underlying4 true)
  · have ht := trodAll_mk3 (Below.trod Tryz.laidOut (by kernel_rfl) (of_decide_eq_true (by kernel_rfl)) k0 hb fun z hz => hlt z (by simp [hz])) (Below.trod Tryz.laidOut (by kernel_rfl) (of_decide_eq_true (by kernel_rfl)) k1 hb fun z hz => hlt z (by simp [hz]))
      (Below.trod Tryz.laidOut (by kernel_rfl) (of_decide_eq_true (by kernel_rfl)) k2 hb fun z hz => hlt z (by simp [hz]))
    first | exact ht | (rw [← List.append_assoc] at ht; exact ht)

theorem matchApart_holds : Rows.MatchApartSaid :=
  OpenClaim.holds_of_wide 5 Tryz.f5 rfl rfl rfl rfl rfl rfl rfl ⟨rfl, rfl, rfl, rfl, rfl⟩ rfl rfl rfl rfl rfl (by kernel_rfl) Tryz.func5 (by kernel_rfl)
    (of_decide_eq_true (by kernel_rfl)) (by unfold Func.isWrapper; first | (rw [if_pos (by decide +kernel)]; kernel_rfl) | (rw [if_neg (by decide +kernel)]; exact ⟨rfl, rfl⟩))
    (fun os started H enc _ => matchApart_lifted os started H enc)

#print axioms matchApart_holds
end

end Go.Proofs.YtkmhnomdfgnohaaGreat
