/- Whether two records have a place in common for long enough: the program's. -/
import Derived.Test.YtbkmfomdhjhkpaaGreatPerson
import Derived.Test.YtbkmfomdhjhkpaaGreatWords
namespace Go.Proofs.YtbkmfomdhjhkpaaGreat
open Go.RowKit Go.Maps

theorem least_three (first m n k : Int) (b : Nat) (w : World) (h0 : w.cell? ⟨b, 0, none⟩ = some (.int .i64 m)) (h1 : w.cell? ⟨b, 1, none⟩ = some (.int .i64 n)) (h2 : w.cell? ⟨b, 2, none⟩ = some (.int .i64 k)) :
    Calls Tryz.prog 73 #[.int .i64 first, .slice (some ⟨b, 0, none⟩) 3 3] w fun e w' => e = .returned (.int .i64 (minOf first [m, n, k])) ∧ w = w' :=
  least_any first [m, n, k] (some ⟨b, 0, none⟩) 3 w (by simp [maxLen]) fun i hi => ⟨b, 0, rfl, by
    match i, hi with
    | 0, _ => exact h0
    | 1, _ => exact h1
    | 2, _ => exact h2⟩

theorem cell_new {w : World} {b : Nat} (hb : w.heap.size = b) (cs : Array Value) (t : TypeId) (i : Nat) : (w.alloc (.cells cs t)).cell? ⟨b, i, none⟩ = cs[i]? := hb ▸ World.cell?_alloc_new w cs t i

theorem common_min (s t : Stay) : minOf (s.t - s.f) [s.t - t.f, t.t - s.f, t.t - t.f] + 1 = common s t := by
  simp only [minOf, List.foldl_cons, List.foldl_nil, common]
  split <;> split <;> split <;> split <;> split <;> omega

theorem common_range (s t : Stay) (hs : 0 ≤ s.f ∧ s.f ≤ 100000 ∧ 0 ≤ s.t ∧ s.t ≤ 100000) (ht : 0 ≤ t.f ∧ t.f ≤ 100000 ∧ 0 ≤ t.t ∧ t.t ≤ 100000) : -100000 ≤ common s t ∧ common s t ≤ 100001 := by
  unfold common
  split <;> split <;> omega

set_option maxHeartbeats 1000000 in
theorem daysInCommon_any (s t : Stay) (w : World) (hs : 0 ≤ s.f ∧ s.f ≤ 100000 ∧ 0 ≤ s.t ∧ s.t ≤ 100000) (ht : 0 ≤ t.f ∧ t.f ≤ 100000 ∧ 0 ≤ t.t ∧ t.t ≤ 100000) :
    Calls Tryz.prog 87 #[.agg #[.int .i64 s.p, .int .i64 s.f, .int .i64 s.t], .agg #[.int .i64 t.p, .int .i64 t.f, .int .i64 t.t]] w fun e w' => e = .returned (.int .i64 (common s t)) ∧ Below w.heap.size w w' := by
  have HC := Lib.hid (common_min s t)
  have HR := Lib.hid (common_range s t hs ht)
  go_enter Tryz.func87, Tryz.ntmps87
  go_wp2_with (first | (go_at_call 73; refine (least_three _ (s.t - t.f) (t.t - s.f) (t.t - t.f) _ _ (cell_new (by simp) _ _ 0) (cell_new (by simp) _ _ 1) (cell_new (by simp) _ _ 2)).mono ?_; rintro e w' ⟨rfl, rfl⟩))
  go_ret
  have h1 := HC.out
  have h2 := HR.out
  refine ⟨ret_int ?_, (((Below.refl _ _).alloc (Nat.le_refl _) _).alloc (by simp) _).alloc (by simp; omega) _⟩
  rw [h1]; unfold wrap64; omega

/-- Whether one of some stays meets another one, its place being the same. -/
theorem meet_ofP (n : Int) (s : Stay) (m : List Stay) : (ofP m s.p).any (fun t => decide (n ≤ common s t)) = m.any (meetB n s) := by
  induction m with
  | nil => rfl
  | cons t m ih =>
    simp only [ofP, List.filter_cons, List.any_cons] at ih ⊢
    by_cases h : t.p = s.p
    · simp [h, ih, meetB]
    · have h' : ¬ s.p = t.p := fun e => h e.symm
      simp [h, h', ih, meetB]

theorem ofP_mem {m : List Stay} {p : Int} {t : Stay} (h : t ∈ ofP m p) : t ∈ m := (List.mem_filter.1 h).1

set_option maxRecDepth 100000 in
set_option maxHeartbeats 2000000 in
theorem placesAgree_any (u : Rul) (r s : Rec) (A D A' D' : Option Addr) (c d c' d' m m' : Nat) (w : World) (hst : Stays w w.heap.size D r.stays) (hby : ByPlace w m' s.stays) (hl : staysB r.stays = true) (hm : staysB s.stays = true) :
    Calls Tryz.prog 60 #[.agg #[.int .i64 u.l, .int .i64 u.d, .int .i64 u.y, .int .i64 u.t], .agg #[.int .i64 r.id, .slice A r.names.length c, .int .u8 r.suf, .int .i64 r.lo, .int .i64 r.hi, .string r.num, .bool r.twin, .slice D r.stays.length d, .map (some m)], .agg #[.int .i64 s.id, .slice A' s.names.length c', .int .u8 s.suf, .int .i64 s.lo, .int .i64 s.hi, .string s.num, .bool s.twin, .slice D' s.stays.length d', .map (some m')]] w fun e w' => e = .returned (.int .u8 (placesF u.t r.stays s.stays)) ∧ Below w.heap.size w w' := by
  have hll : r.stays.length ≤ 6 := by simp only [staysB, Bool.and_eq_true, decide_eq_true_eq] at hl; exact hl.1
  have hmm : s.stays.length ≤ 6 := by simp only [staysB, Bool.and_eq_true, decide_eq_true_eq] at hm; exact hm.1
  obtain ⟨G, n, base, hn, hG⟩ := hby
  have hmlt : m' < w.heap.size := hG.map.lt
  go_enter Tryz.func60, Tryz.ntmps60
  go_wp2_with fail
  generalize hW0 : ((w.alloc (.cells #[.int .i64 u.l, .int .i64 u.d, .int .i64 u.y, .int .i64 u.t] 23)).alloc (.cells #[.int .i64 r.id, .slice A r.names.length c, .int .u8 r.suf, .int .i64 r.lo, .int .i64 r.hi, .string r.num, .bool r.twin, .slice D r.stays.length d, .map (some m)] 83)).alloc (.cells #[.int .i64 s.id, .slice A' s.names.length c', .int .u8 s.suf, .int .i64 s.lo, .int .i64 s.hi, .string s.num, .bool s.twin, .slice D' s.stays.length d', .map (some m')] 83) = W0
  have hb0 : Below w.heap.size w W0 := hW0 ▸ ((((Below.refl _ _).alloc (Nat.le_refl _) _).alloc (by simp) _).alloc (by simp; omega) _)
  have hu : Blk W0 w.heap.size #[.int .i64 u.l, .int .i64 u.d, .int .i64 u.y, .int .i64 u.t] 23 := hW0 ▸ ((Blk.new w #[.int .i64 u.l, .int .i64 u.d, .int .i64 u.y, .int .i64 u.t] 23).alloc _).alloc _
  have hp : Blk W0 (w.heap.size + 1 + 1) #[.int .i64 s.id, .slice A' s.names.length c', .int .u8 s.suf, .int .i64 s.lo, .int .i64 s.hi, .string s.num, .bool s.twin, .slice D' s.stays.length d', .map (some m')] 83 := by
    have := Blk.new ((w.alloc (.cells #[.int .i64 u.l, .int .i64 u.d, .int .i64 u.y, .int .i64 u.t] 23)).alloc (.cells #[.int .i64 r.id, .slice A r.names.length c, .int .u8 r.suf, .int .i64 r.lo, .int .i64 r.hi, .string r.num, .bool r.twin, .slice D r.stays.length d, .map (some m)] 83)) #[.int .i64 s.id, .slice A' s.names.length c', .int .u8 s.suf, .int .i64 s.lo, .int .i64 s.hi, .string s.num, .bool s.twin, .slice D' s.stays.length d', .map (some m')] 83
    simp only [World.size_alloc] at this
    rw [hW0] at this
    exact this
  have hz0 : w.heap.size + 1 + 1 < W0.heap.size := hp.lt
  clear hW0
  go_loopw [15] (fun ii wr => ∃ i : Nat, i ≤ r.stays.length ∧ ii = .int .i64 i ∧ Hid ((r.stays.take i).any (fun s' => s.stays.any (meetB u.t s')) = false) ∧ Below W0.heap.size W0 wr) (fun ii _ => r.stays.length - (intOf ii).toNat)
  case atStart => exact ⟨0, Nat.zero_le _, rfl, Lib.hid (by simp), Below.refl _ _⟩
  case round =>
    obtain ⟨i, hi, rfl, hall, hbel⟩ := hrel
    by_cases hlt : i < r.stays.length
    · have hil : (i : Int) < (r.stays.length : Int) := by omega
      have hwr : Below w.heap.size w wr := hb0.trans (hbel.mono hb0.size)
      obtain ⟨b, off, rfl, hb, c1, c2, c3⟩ := (hst.below hwr) i hlt
      have bs := staysB_at hl hlt
      have HN := Lib.hid (fun hf => any_next (fun s' => s.stays.any (meetB u.t s')) r.stays i hlt hall.out hf)
      have HO := Lib.hid (any_stop (fun s' => s.stays.any (meetB u.t s')) r.stays i hlt)
      generalize r.stays[i] = q at *
      have wfp : (Lit.int .i64 q.p).wf = true := WalkArith.wf_i64 (by have := bs.1; simp [inB] at this; omega)
      obtain ⟨A2, c2', hv⟩ := own_slice (hG.row q.p)
      have hst2 : Stays w w.heap.size A2 (ofP s.stays q.p) := stays_of_own (hv ▸ hG.row q.p)
      have hsub : ∀ t ∈ ofP s.stays q.p, 0 ≤ t.f ∧ t.f ≤ 100000 ∧ 0 ≤ t.t ∧ t.t ≤ 100000 := fun t ht => by
        obtain ⟨k, hk, rfl⟩ := List.getElem_of_mem (ofP_mem ht)
        exact (staysB_at hm hk).2
      have look := ((hG.map.below hwr hmlt).alloc (.cells #[.int .i64 q.p, .int .i64 q.f, .int .i64 q.t] 75)).look (int_keyed Tryz.underlying3) Tryz.underlying81 (stayZero _) (keyOf_int_mk Tryz.underlying3 wfp)
      change _ = Result.ok (atP G q.p) _ at look
      rw [hv] at look
      have hl2 : (ofP s.stays q.p).length ≤ 6 := Nat.le_trans (ofP_length s.stays q.p) hmm
      have hML := Lib.hid (meet_ofP u.t q s.stays)
      generalize ofP s.stays q.p = l2 at *
      have kp := (hp.below hbel hz0).alloc (.cells #[.int .i64 q.p, .int .i64 q.f, .int .i64 q.t] 75) |>.cell
      go_wp2_with fail
      generalize hW1 : wr.alloc (.cells #[.int .i64 q.p, .int .i64 q.f, .int .i64 q.t] 75) = W1
      have hb1 : Below w.heap.size w W1 := hW1 ▸ hwr.alloc hwr.size _
      have hbW : Below W0.heap.size W0 W1 := hW1 ▸ hbel.alloc hbel.size _
      have kq : Blk W1 wr.heap.size #[.int .i64 q.p, .int .i64 q.f, .int .i64 q.t] 75 := hW1 ▸ Blk.new wr _ _
      have ku : Blk W1 w.heap.size #[.int .i64 u.l, .int .i64 u.d, .int .i64 u.y, .int .i64 u.t] 23 := hu.below hbW (by omega)
      clear hW1 look kp c1 c2 c3
      go_loopw [25] (fun kk wi => ∃ k : Nat, k ≤ l2.length ∧ kk = .int .i64 k ∧ Hid ((l2.take k).any (fun t => decide (u.t ≤ common q t)) = false) ∧ Below W1.heap.size W1 wi) (fun kk _ => l2.length - (intOf kk).toNat)
      case atStart => exact ⟨0, Nat.zero_le _, rfl, Lib.hid (by simp), Below.refl _ _⟩
      case round =>
        obtain ⟨k, hk, rfl, hall', hbi⟩ := hrel
        have hbi0 : Below W0.heap.size W0 _ := hbW.trans (hbi.mono hbW.size)
        by_cases hkm : k < l2.length
        · have hkl : (k : Int) < (l2.length : Int) := by omega
          obtain ⟨b', off', rfl, hb', d1, d2, d3⟩ := (hst2.below (hb1.trans (hbi.mono hb1.size))) k hkm
          have bt := hsub _ (List.getElem_mem hkm)
          have HN2 := Lib.hid (fun hf => any_next (fun t => decide (u.t ≤ common q t)) l2 k hkm hall'.out hf)
          have HS := Lib.hid (any_stop (fun t => decide (u.t ≤ common q t)) l2 k hkm)
          clear hall'
          generalize l2[k] = t at *
          have Hd := Lib.hid (fun W => daysInCommon_any q t W bs.2 bt)
          generalize common q t = cm at *
          have kq2 := ((kq.below hbi kq.lt).alloc (.cells #[.int .i64 t.p, .int .i64 t.f, .int .i64 t.t] 75))
          have ku2 := ((ku.below hbi ku.lt).alloc (.cells #[.int .i64 t.p, .int .i64 t.f, .int .i64 t.t] 75))
          go_upto_region 7 with fail
          have kt2 := Blk.new wr #[.int .i64 t.p, .int .i64 t.f, .int .i64 t.t] 75
          have hb2 : Below W0.heap.size W0 (wr.alloc (.cells #[.int .i64 t.p, .int .i64 t.f, .int .i64 t.t] 75)) := hbi0.alloc hbi0.size _
          have hb2' : Below W1.heap.size W1 (wr.alloc (.cells #[.int .i64 t.p, .int .i64 t.f, .int .i64 t.t] 75)) := hbi.alloc hbi.size _
          generalize hW2 : wr.alloc (.cells #[.int .i64 t.p, .int .i64 t.f, .int .i64 t.t] 75) = W2 at *
          have cq := After.cells (B := W2.heap.size) kq2.cell kq2.lt
          have cu := After.cells (B := W2.heap.size) ku2.cell ku2.lt
          have ct := After.cells (B := W2.heap.size) kt2.cell kt2.lt
          clear hW2 hbi hbi0
          refine wp_region_class_lit (C := fun w' => ∃ x : After W2.heap.size W2, w' = x.val) (by kernel_rfl) (by kernel_rfl) ⟨⟨_, (Below.refl _ _).drew⟩, rfl⟩ ?_
          repeat (go_big_quiet_step ((first
            | (go_at_call 87; exact after_of (Nat.le_refl _) _ (Hd.out _)))))
          refine wpQuiet_nil ?_
          intro wz hw'
          obtain ⟨⟨wq, hz⟩, hw''⟩ := hw'
          dsimp only at hw''
          subst hw''
          have hzz : Below W0.heap.size W0 wz := hb2.trans (hz.mono hb2.size)
          have hzz1 : Below W1.heap.size W1 wz := hb2'.trans (hz.mono hb2'.size)
          clear cq cu ct
          go_wp2_with fail
          · have h3 : u.t ≤ cm := by assumption
            have h4 := HO.out (hML.out ▸ HS.out (decide_eq_true h3))
            go_ret
            exact ⟨ret_int (by rw [placesF, placesB, h4]; rfl), hb0.trans (hzz.mono hb0.size)⟩
          · have h3 : ¬ u.t ≤ cm := by omega
            have HN3 := Lib.hid (HN2.out (decide_eq_false h3))
            go_roundw
            case rel => exact ⟨k + 1, by omega, by go_num, HN3, hzz1⟩
            case measure => simp [intOf]; omega
        · have hkl : ¬ (k : Int) < (l2.length : Int) := by omega
          have hout := any_end _ l2 k hkm hall'.out
          have HN2 := Lib.hid (HN.out (hML.out ▸ hout))
          go_wp2
          go_roundw
          case rel => exact ⟨i + 1, by omega, by go_num, HN2, hbi0⟩
          case measure => simp [intOf]; omega
    · have hil : ¬ (i : Int) < (r.stays.length : Int) := by omega
      have hout := any_end _ r.stays i hlt hall.out
      go_wp2_with fail
      go_ret
      exact ⟨ret_int (by rw [placesF, placesB, hout]; rfl), hb0.trans (hbel.mono hb0.size)⟩

end Go.Proofs.YtbkmfomdhjhkpaaGreat
