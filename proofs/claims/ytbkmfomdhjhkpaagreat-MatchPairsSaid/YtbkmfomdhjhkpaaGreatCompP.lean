/- How much two valid records agree: the program's. -/
import Derived.Test.YtbkmfomdhjhkpaaGreatOne
import Derived.Test.YtbkmfomdhjhkpaaGreatNamesP
import Derived.Test.YtbkmfomdhjhkpaaGreatPlacesP
namespace Go.Proofs.YtbkmfomdhjhkpaaGreat
open Go.RowKit Go.Maps

set_option maxRecDepth 100000 in
set_option maxHeartbeats 8000000 in
theorem compare_in (u : Rul) (r s : Rec) (A A' D D' : Option Addr) (c c' d d' m m' : Nat) (w : World) (hu : 0 ≤ u.l) (hsr : 0 ≤ r.suf) (hss : 0 ≤ s.suf) (hby : ByPlace w m' s.stays) (h : RecAt w w.heap.size A D r) (h' : RecAt w w.heap.size A' D' s) (hr : recB r = true) (hs : recB s = true) (hc : r.names.length ≤ c) (hc' : s.names.length ≤ c') :
    Calls Tryz.prog 32 #[.agg #[.int .i64 u.l, .int .i64 u.d, .int .i64 u.y, .int .i64 u.t], .agg #[.int .i64 r.id, .slice A r.names.length c, .int .u8 r.suf, .int .i64 r.lo, .int .i64 r.hi, .string r.num, .bool r.twin, .slice D r.stays.length d, .map (some m)], .agg #[.int .i64 s.id, .slice A' s.names.length c', .int .u8 s.suf, .int .i64 s.lo, .int .i64 s.hi, .string s.num, .bool s.twin, .slice D' s.stays.length d', .map (some m')]] w fun e w' => e = .returned (.agg #[.int .u8 (matF u r s).names, .int .u8 (matF u r s).num, .int .u8 (matF u r s).born, .int .u8 (matF u r s).place, .int .u8 (matF u r s).one]) ∧ Below w.heap.size w w' := by
  have b0 : Below w.heap.size w ((((w.alloc (.cells #[.int .i64 u.l, .int .i64 u.d, .int .i64 u.y, .int .i64 u.t] 23)).alloc (.cells #[.int .i64 r.id, .slice A r.names.length c, .int .u8 r.suf, .int .i64 r.lo, .int .i64 r.hi, .string r.num, .bool r.twin, .slice D r.stays.length d, .map (some m)] 83)).alloc (.cells #[.int .i64 s.id, .slice A' s.names.length c', .int .u8 s.suf, .int .i64 s.lo, .int .i64 s.hi, .string s.num, .bool s.twin, .slice D' s.stays.length d', .map (some m')] 83)).alloc (.cells #[.int .u8 0, .int .u8 0, .int .u8 0, .int .u8 0, .int .u8 0] 54)) := ((((Below.refl _ _).alloc (Nat.le_refl _) _).alloc (by simp) _).alloc (by simp; omega) _).alloc (by simp; omega) _
  have hz : ((((w.alloc (.cells #[.int .i64 u.l, .int .i64 u.d, .int .i64 u.y, .int .i64 u.t] 23)).alloc (.cells #[.int .i64 r.id, .slice A r.names.length c, .int .u8 r.suf, .int .i64 r.lo, .int .i64 r.hi, .string r.num, .bool r.twin, .slice D r.stays.length d, .map (some m)] 83)).alloc (.cells #[.int .i64 s.id, .slice A' s.names.length c', .int .u8 s.suf, .int .i64 s.lo, .int .i64 s.hi, .string s.num, .bool s.twin, .slice D' s.stays.length d', .map (some m')] 83)).alloc (.cells #[.int .u8 0, .int .u8 0, .int .u8 0, .int .u8 0, .int .u8 0] 54)).heap.size = w.heap.size + 4 := by simp
  have c0 : ∀ i, ((((w.alloc (.cells #[.int .i64 u.l, .int .i64 u.d, .int .i64 u.y, .int .i64 u.t] 23)).alloc (.cells #[.int .i64 r.id, .slice A r.names.length c, .int .u8 r.suf, .int .i64 r.lo, .int .i64 r.hi, .string r.num, .bool r.twin, .slice D r.stays.length d, .map (some m)] 83)).alloc (.cells #[.int .i64 s.id, .slice A' s.names.length c', .int .u8 s.suf, .int .i64 s.lo, .int .i64 s.hi, .string s.num, .bool s.twin, .slice D' s.stays.length d', .map (some m')] 83)).alloc (.cells #[.int .u8 0, .int .u8 0, .int .u8 0, .int .u8 0, .int .u8 0] 54)).cell? ⟨w.heap.size, i, none⟩ = (#[.int .i64 u.l, .int .i64 u.d, .int .i64 u.y, .int .i64 u.t] : Array Value)[i]? := cells_kept ((((Below.refl _ _).alloc (by simp) _).alloc (by simp) _).alloc (by simp) _)
  have c1 : ∀ i, ((((w.alloc (.cells #[.int .i64 u.l, .int .i64 u.d, .int .i64 u.y, .int .i64 u.t] 23)).alloc (.cells #[.int .i64 r.id, .slice A r.names.length c, .int .u8 r.suf, .int .i64 r.lo, .int .i64 r.hi, .string r.num, .bool r.twin, .slice D r.stays.length d, .map (some m)] 83)).alloc (.cells #[.int .i64 s.id, .slice A' s.names.length c', .int .u8 s.suf, .int .i64 s.lo, .int .i64 s.hi, .string s.num, .bool s.twin, .slice D' s.stays.length d', .map (some m')] 83)).alloc (.cells #[.int .u8 0, .int .u8 0, .int .u8 0, .int .u8 0, .int .u8 0] 54)).cell? ⟨w.heap.size + 1, i, none⟩ = (#[.int .i64 r.id, .slice A r.names.length c, .int .u8 r.suf, .int .i64 r.lo, .int .i64 r.hi, .string r.num, .bool r.twin, .slice D r.stays.length d, .map (some m)] : Array Value)[i]? := by
    have := cells_kept (w := w.alloc (.cells #[.int .i64 u.l, .int .i64 u.d, .int .i64 u.y, .int .i64 u.t] 23)) (((Below.refl _ _).alloc (by simp) (.cells #[.int .i64 s.id, .slice A' s.names.length c', .int .u8 s.suf, .int .i64 s.lo, .int .i64 s.hi, .string s.num, .bool s.twin, .slice D' s.stays.length d', .map (some m')] 83)).alloc (by simp) (.cells #[.int .u8 0, .int .u8 0, .int .u8 0, .int .u8 0, .int .u8 0] 54)) (cs := #[.int .i64 r.id, .slice A r.names.length c, .int .u8 r.suf, .int .i64 r.lo, .int .i64 r.hi, .string r.num, .bool r.twin, .slice D r.stays.length d, .map (some m)]) (t := 83)
    simpa only [World.size_alloc] using this
  have c2 : ∀ i, ((((w.alloc (.cells #[.int .i64 u.l, .int .i64 u.d, .int .i64 u.y, .int .i64 u.t] 23)).alloc (.cells #[.int .i64 r.id, .slice A r.names.length c, .int .u8 r.suf, .int .i64 r.lo, .int .i64 r.hi, .string r.num, .bool r.twin, .slice D r.stays.length d, .map (some m)] 83)).alloc (.cells #[.int .i64 s.id, .slice A' s.names.length c', .int .u8 s.suf, .int .i64 s.lo, .int .i64 s.hi, .string s.num, .bool s.twin, .slice D' s.stays.length d', .map (some m')] 83)).alloc (.cells #[.int .u8 0, .int .u8 0, .int .u8 0, .int .u8 0, .int .u8 0] 54)).cell? ⟨w.heap.size + 1 + 1, i, none⟩ = (#[.int .i64 s.id, .slice A' s.names.length c', .int .u8 s.suf, .int .i64 s.lo, .int .i64 s.hi, .string s.num, .bool s.twin, .slice D' s.stays.length d', .map (some m')] : Array Value)[i]? := by
    have := cells_kept (w := (w.alloc (.cells #[.int .i64 u.l, .int .i64 u.d, .int .i64 u.y, .int .i64 u.t] 23)).alloc (.cells #[.int .i64 r.id, .slice A r.names.length c, .int .u8 r.suf, .int .i64 r.lo, .int .i64 r.hi, .string r.num, .bool r.twin, .slice D r.stays.length d, .map (some m)] 83)) ((Below.refl _ _).alloc (by simp) (.cells #[.int .u8 0, .int .u8 0, .int .u8 0, .int .u8 0, .int .u8 0] 54)) (cs := #[.int .i64 s.id, .slice A' s.names.length c', .int .u8 s.suf, .int .i64 s.lo, .int .i64 s.hi, .string s.num, .bool s.twin, .slice D' s.stays.length d', .map (some m')]) (t := 83)
    simpa only [World.size_alloc] using this
  have c3 : ∀ i, ((((w.alloc (.cells #[.int .i64 u.l, .int .i64 u.d, .int .i64 u.y, .int .i64 u.t] 23)).alloc (.cells #[.int .i64 r.id, .slice A r.names.length c, .int .u8 r.suf, .int .i64 r.lo, .int .i64 r.hi, .string r.num, .bool r.twin, .slice D r.stays.length d, .map (some m)] 83)).alloc (.cells #[.int .i64 s.id, .slice A' s.names.length c', .int .u8 s.suf, .int .i64 s.lo, .int .i64 s.hi, .string s.num, .bool s.twin, .slice D' s.stays.length d', .map (some m')] 83)).alloc (.cells #[.int .u8 0, .int .u8 0, .int .u8 0, .int .u8 0, .int .u8 0] 54)).cell? ⟨w.heap.size + 1 + 1 + 1, i, none⟩ = (#[.int .u8 0, .int .u8 0, .int .u8 0, .int .u8 0, .int .u8 0] : Array Value)[i]? := fun i => by
    have := World.cell?_alloc_new ((w.alloc (.cells #[.int .i64 u.l, .int .i64 u.d, .int .i64 u.y, .int .i64 u.t] 23)).alloc (.cells #[.int .i64 r.id, .slice A r.names.length c, .int .u8 r.suf, .int .i64 r.lo, .int .i64 r.hi, .string r.num, .bool r.twin, .slice D r.stays.length d, .map (some m)] 83) |>.alloc (.cells #[.int .i64 s.id, .slice A' s.names.length c', .int .u8 s.suf, .int .i64 s.lo, .int .i64 s.hi, .string s.num, .bool s.twin, .slice D' s.stays.length d', .map (some m')] 83)) #[.int .u8 0, .int .u8 0, .int .u8 0, .int .u8 0, .int .u8 0] 54 i
    simpa only [World.size_alloc] using this
  have f3 : ∀ i, ((((w.alloc (.cells #[.int .i64 u.l, .int .i64 u.d, .int .i64 u.y, .int .i64 u.t] 23)).alloc (.cells #[.int .i64 r.id, .slice A r.names.length c, .int .u8 r.suf, .int .i64 r.lo, .int .i64 r.hi, .string r.num, .bool r.twin, .slice D r.stays.length d, .map (some m)] 83)).alloc (.cells #[.int .i64 s.id, .slice A' s.names.length c', .int .u8 s.suf, .int .i64 s.lo, .int .i64 s.hi, .string s.num, .bool s.twin, .slice D' s.stays.length d', .map (some m')] 83)).alloc (.cells #[.int .u8 0, .int .u8 0, .int .u8 0, .int .u8 0, .int .u8 0] 54)).frozen? ⟨w.heap.size + 1 + 1 + 1, i, none⟩ = false := fun i => by
    have := World.frozen?_alloc_new (w := ((w.alloc (.cells #[.int .i64 u.l, .int .i64 u.d, .int .i64 u.y, .int .i64 u.t] 23)).alloc (.cells #[.int .i64 r.id, .slice A r.names.length c, .int .u8 r.suf, .int .i64 r.lo, .int .i64 r.hi, .string r.num, .bool r.twin, .slice D r.stays.length d, .map (some m)] 83) |>.alloc (.cells #[.int .i64 s.id, .slice A' s.names.length c', .int .u8 s.suf, .int .i64 s.lo, .int .i64 s.hi, .string s.num, .bool s.twin, .slice D' s.stays.length d', .map (some m')] 83))) #[.int .u8 0, .int .u8 0, .int .u8 0, .int .u8 0, .int .u8 0] 54 i
    simpa only [World.size_alloc] using this
  obtain ⟨pn, psuf, plo, phi, pnum, pst⟩ := recB_parts hr
  obtain ⟨qn, qsuf, qlo, qhi, qnum, qst⟩ := recB_parts hs
  obtain ⟨wr, pr0, pr5⟩ := wordy_of pn
  obtain ⟨ws, qs0, qs5⟩ := wordy_of qn
  have Hn := Lib.hid (fun W h1 h2 => namesAgree_any u r s A D A' D' c d c' d' m m' W hu h1 h2 pr0 qs0 pr5 qs5 hc hc' wr ws)
  have Hk := Lib.hid (fun W => numbersAgree_any u A D A' D' c d c' d' m m' r s W pnum qnum)
  have Hb := Lib.hid (fun W => birthsAgree_any u A D A' D' c d c' d' m m' r s W plo phi qlo qhi)
  have Hp := Lib.hid (fun W h1 h2 => placesAgree_any u r s A D A' D' c d c' d' m m' W h1 h2 pst qst)
  have tn := h.strs.below b0
  have tn' := h'.strs.below b0
  have ts := h.stays.below b0
  have ts' := hby.below b0 (Nat.le_refl _)
  dsimp only [matF]
  have hvn := namesS_vals u.l r.names s.names
  generalize namesS u.l r.names s.names = vn at Hn hvn ⊢
  generalize numS u.d r.num s.num = vk at Hk ⊢
  generalize birS u.y r.lo r.hi s.lo s.hi = vb at Hb ⊢
  generalize placesF u.t r.stays s.stays = vp at Hp ⊢
  have HD := Lib.hid (fun W => decided_one vn vk vb vp r s hvn ⟨hsr, psuf⟩ ⟨hss, qsuf⟩ ▸ decide_any ⟨vn, vk, vb, vp, 0⟩ A D A' D' c d c' d' m m' r s W)
  generalize oneF vn vk vb vp r.suf s.suf r.twin s.twin = one at HD ⊢
  clear hvn hby h h' hr hs pn plo phi pnum pst qn qlo qhi qnum qst wr ws pr0 pr5 qs0 qs5
  go_enter Tryz.func32, Tryz.ntmps32
  go_upto_region 1 with fail
  generalize hW0 : (((w.alloc (.cells #[.int .i64 u.l, .int .i64 u.d, .int .i64 u.y, .int .i64 u.t] 23)).alloc (.cells #[.int .i64 r.id, .slice A r.names.length c, .int .u8 r.suf, .int .i64 r.lo, .int .i64 r.hi, .string r.num, .bool r.twin, .slice D r.stays.length d, .map (some m)] 83)).alloc (.cells #[.int .i64 s.id, .slice A' s.names.length c', .int .u8 s.suf, .int .i64 s.lo, .int .i64 s.hi, .string s.num, .bool s.twin, .slice D' s.stays.length d', .map (some m')] 83)).alloc (.cells #[.int .u8 0, .int .u8 0, .int .u8 0, .int .u8 0, .int .u8 0] 54) = W0 at *
  have hKB : KeptB (w.heap.size + 4) w.heap.size (w.heap.size + 1) (w.heap.size + 1 + 1) W0 := ⟨by omega, by omega, by omega, by omega⟩
  have hz3 : w.heap.size ≤ w.heap.size + 4 := by omega
  have hz5 : w.heap.size + 4 ≤ W0.heap.size := by omega
  have hz6 : W0.heap.size ≤ w.heap.size + 4 := by omega
  have hs0 : W0.heap.size ≤ W0.heap.size := Nat.le_refl _
  have hb34 : w.heap.size + 1 + 1 + 1 < w.heap.size + 4 := by omega
  have hb03 : w.heap.size ≤ w.heap.size + 1 + 1 + 1 := by omega
  have hd0 : Below (w.heap.size + 4) W0 W0.drew := (Below.refl _ _).drew
  clear hz hW0
  generalize w.heap.size + 4 = B4 at *
  generalize hg3 : w.heap.size + 1 + 1 + 1 = B3 at *
  generalize hg2 : w.heap.size + 1 + 1 = g2 at *
  generalize hg1 : w.heap.size + 1 = g1 at *
  generalize hg0 : w.heap.size = g0 at *
  clear hg2 hg1 hg3
  go_cut [7] (fun s7 wx => ∃ bm : Nat, s7 = .pointer (some ⟨bm, 0, none⟩) ∧ B4 ≤ bm ∧ wx.cell? ⟨bm, 0, none⟩ = some (.int .u8 vn) ∧ wx.cell? ⟨bm, 1, none⟩ = some (.int .u8 vk) ∧ wx.cell? ⟨bm, 2, none⟩ = some (.int .u8 vb) ∧ wx.cell? ⟨bm, 3, none⟩ = some (.int .u8 vp) ∧ wx.cell? ⟨bm, 4, none⟩ = some (.int .u8 0) ∧ (∀ i, wx.frozen? ⟨bm, i, none⟩ = false) ∧ (∀ i, wx.cell? ⟨g1, i, none⟩ = (#[.int .i64 r.id, .slice A r.names.length c, .int .u8 r.suf, .int .i64 r.lo, .int .i64 r.hi, .string r.num, .bool r.twin, .slice D r.stays.length d, .map (some m)] : Array Value)[i]?) ∧ (∀ i, wx.cell? ⟨g2, i, none⟩ = (#[.int .i64 s.id, .slice A' s.names.length c', .int .u8 s.suf, .int .i64 s.lo, .int .i64 s.hi, .string s.num, .bool s.twin, .slice D' s.stays.length d', .map (some m')] : Array Value)[i]?) ∧ Below B4 W0 wx)
  case first =>
    go_region_held3 (fun W => Below B4 W0 W ∧ (∀ i, W.cell? ⟨g0, i, none⟩ = (#[.int .i64 u.l, .int .i64 u.d, .int .i64 u.y, .int .i64 u.t] : Array Value)[i]?) ∧ (∀ i, W.cell? ⟨g1, i, none⟩ = (#[.int .i64 r.id, .slice A r.names.length c, .int .u8 r.suf, .int .i64 r.lo, .int .i64 r.hi, .string r.num, .bool r.twin, .slice D r.stays.length d, .map (some m)] : Array Value)[i]?) ∧ (∀ i, W.cell? ⟨g2, i, none⟩ = (#[.int .i64 s.id, .slice A' s.names.length c', .int .u8 s.suf, .int .i64 s.lo, .int .i64 s.hi, .string s.num, .bool s.twin, .slice D' s.stays.length d', .map (some m')] : Array Value)[i]?)) (first | (with_reducible refine keptC_call hKB (by with_reducible assumption) (by with_reducible assumption)) | (with_reducible refine keptC_alloc (.cells #[.int .u8 0, .int .u8 0, .int .u8 0, .int .u8 0, .int .u8 0] 54) hKB (by with_reducible assumption)) | (with_reducible refine keptC_refill (o := (.cells #[.int .u8 0, .int .u8 0, .int .u8 0, .int .u8 0, .int .u8 0] 54)) _ hKB (by with_reducible assumption) (by with_reducible assumption)) | (with_reducible refine keptC_set hKB (by with_reducible assumption) (keptC_set hKB (by with_reducible assumption) (keptC_set hKB (by with_reducible assumption) (keptC_set hKB (by with_reducible assumption) (keptC_set hKB (by with_reducible assumption) ?_)))); with_reducible assumption) | (exact ⟨hd0, c0, c1, c2⟩) | (exact keptC_drew (keptC_alloc (.cells #[.int .u8 0, .int .u8 0, .int .u8 0, .int .u8 0, .int .u8 0] 54) hKB ⟨Below.refl _ _, c0, c1, c2⟩)) | (simp [*]; done))
      (first
        | (go_at_call 57; refine (Hn.out _ (tn.late (g := B4) hz3 hz5 (by with_reducible assumption)) (tn'.late (g := B4) hz3 hz5 (by with_reducible assumption))).mono ?_; rintro e w1 ⟨rfl, hb1⟩; have hs1 := kept_le hb1 (by with_reducible assumption); first | ((with_reducible (have hq := made_one hKB (by with_reducible assumption) hb1 (by with_reducible assumption)));  obtain ⟨bm, hbm, hMade⟩ := hq; have hM := hMade; obtain ⟨⟨m0, m1, m2, m3, m4⟩, mf, ml, mg⟩ := hM; rw [← hbm]; clear hbm) | ((with_reducible (have hq := made_one' hKB (by with_reducible assumption) hb1 (by with_reducible assumption)));  obtain ⟨bm, hbm, hMade⟩ := hq; have hM := hMade; obtain ⟨⟨m0, m1, m2, m3, m4⟩, mf, ml, mg⟩ := hM; rw [← hbm]; clear hbm) | ((with_reducible (have hq := made_on hb1 (by with_reducible assumption)));  have hM := hq; obtain ⟨⟨m0, m1, m2, m3, m4⟩, mf, ml, mg⟩ := hM) | skip)
        | (go_at_call 58; refine (Hk.out _).mono ?_; rintro e w2 ⟨rfl, hb2⟩; have hs2 := kept_le hb2 (by with_reducible assumption); first | ((with_reducible (have hq := made_one hKB (by with_reducible assumption) hb2 (by with_reducible assumption)));  obtain ⟨bm, hbm, hMade⟩ := hq; have hM := hMade; obtain ⟨⟨m0, m1, m2, m3, m4⟩, mf, ml, mg⟩ := hM; rw [← hbm]; clear hbm) | ((with_reducible (have hq := made_one' hKB (by with_reducible assumption) hb2 (by with_reducible assumption)));  obtain ⟨bm, hbm, hMade⟩ := hq; have hM := hMade; obtain ⟨⟨m0, m1, m2, m3, m4⟩, mf, ml, mg⟩ := hM; rw [← hbm]; clear hbm) | ((with_reducible (have hq := made_on hb2 (by with_reducible assumption)));  have hM := hq; obtain ⟨⟨m0, m1, m2, m3, m4⟩, mf, ml, mg⟩ := hM) | skip)
        | (go_at_call 59; refine (Hb.out _).mono ?_; rintro e w3 ⟨rfl, hb3⟩; have hs3 := kept_le hb3 (by with_reducible assumption); first | ((with_reducible (have hq := made_one hKB (by with_reducible assumption) hb3 (by with_reducible assumption)));  obtain ⟨bm, hbm, hMade⟩ := hq; have hM := hMade; obtain ⟨⟨m0, m1, m2, m3, m4⟩, mf, ml, mg⟩ := hM; rw [← hbm]; clear hbm) | ((with_reducible (have hq := made_one' hKB (by with_reducible assumption) hb3 (by with_reducible assumption)));  obtain ⟨bm, hbm, hMade⟩ := hq; have hM := hMade; obtain ⟨⟨m0, m1, m2, m3, m4⟩, mf, ml, mg⟩ := hM; rw [← hbm]; clear hbm) | ((with_reducible (have hq := made_on hb3 (by with_reducible assumption)));  have hM := hq; obtain ⟨⟨m0, m1, m2, m3, m4⟩, mf, ml, mg⟩ := hM) | skip)
        | (go_at_call 60; refine (Hp.out _ (ts.late (g := B4) hz3 hz5 (by with_reducible assumption)) (ts'.late (g := B4) hz6 (by with_reducible assumption))).mono ?_; rintro e w4 ⟨rfl, hb4⟩; have hs4 := kept_le hb4 (by with_reducible assumption); first | ((with_reducible (have hq := made_one hKB (by with_reducible assumption) hb4 (by with_reducible assumption)));  obtain ⟨bm, hbm, hMade⟩ := hq; have hM := hMade; obtain ⟨⟨m0, m1, m2, m3, m4⟩, mf, ml, mg⟩ := hM; rw [← hbm]; clear hbm) | ((with_reducible (have hq := made_one' hKB (by with_reducible assumption) hb4 (by with_reducible assumption)));  obtain ⟨bm, hbm, hMade⟩ := hq; have hM := hMade; obtain ⟨⟨m0, m1, m2, m3, m4⟩, mf, ml, mg⟩ := hM; rw [← hbm]; clear hbm) | ((with_reducible (have hq := made_on hb4 (by with_reducible assumption)));  have hM := hq; obtain ⟨⟨m0, m1, m2, m3, m4⟩, mf, ml, mg⟩ := hM) | skip))
    all_goals (go_step; go_step; go_meet)
    all_goals first
      | with_reducible exact meetB' hKB (by with_reducible assumption) (by with_reducible assumption)
      | with_reducible exact meetA (by with_reducible assumption) ⟨m0, m1, m2, m3, m4⟩ mf mg
  case rest =>
    obtain ⟨bm, rfl, hge, m0, m1, m2, m3, m4, mf, k1, k2, hbel⟩ := hcut
    have q0 : wc.cell? ⟨B3, 0, none⟩ = some (.int .u8 0) := (hbel.cell (p := ⟨B3, 0, none⟩) hb34).trans (c3 0)
    have q1 : wc.cell? ⟨B3, 1, none⟩ = some (.int .u8 0) := (hbel.cell (p := ⟨B3, 1, none⟩) hb34).trans (c3 1)
    have q2 : wc.cell? ⟨B3, 2, none⟩ = some (.int .u8 0) := (hbel.cell (p := ⟨B3, 2, none⟩) hb34).trans (c3 2)
    have q3 : wc.cell? ⟨B3, 3, none⟩ = some (.int .u8 0) := (hbel.cell (p := ⟨B3, 3, none⟩) hb34).trans (c3 3)
    have q4 : wc.cell? ⟨B3, 4, none⟩ = some (.int .u8 0) := (hbel.cell (p := ⟨B3, 4, none⟩) hb34).trans (c3 4)
    have qf : ∀ i, wc.frozen? ⟨B3, i, none⟩ = false := fun i => (hbel.frozen (p := ⟨B3, i, none⟩) hb34).trans (f3 i)
    have hlt0 : w.heap.size ≤ B3 := hg0 ▸ hb03
    have hne : bm ≠ B3 := by omega
    have hne' : B3 ≠ bm := by omega
    have hwc : Below w.heap.size w wc := by
      rw [hg0]; exact b0.trans (hbel.mono (by omega))
    have hlb : w.heap.size ≤ bm := by omega
    have lm : bm < wc.heap.size := World.block_lt_of_cell? wc ⟨bm, 0, none⟩ m0
    have l3 : B3 < wc.heap.size := World.block_lt_of_cell? wc ⟨B3, 0, none⟩ q0
    clear Hn Hk Hb Hp tn tn' ts ts' c0 c1 c2 hd0 c3 f3 hbel hKB hz3 hz5 hz6 hs0 hb34 hb03 hge b0
    go_upto_region 3 with (go_at_call 61; refine (HD.out _).mono ?_; rintro e w2 ⟨rfl, hb2⟩; have n4 := (hb2.cell (p := ⟨bm, 4, none⟩) lm).trans m4; have nf : ∀ i, w2.frozen? ⟨bm, i, none⟩ = false := fun i => (hb2.frozen (p := ⟨bm, i, none⟩) lm).trans (mf i))
    have n0 := (hb2.cell (p := ⟨bm, 0, none⟩) lm).trans m0
    have n1 := (hb2.cell (p := ⟨bm, 1, none⟩) lm).trans m1
    have n2 := (hb2.cell (p := ⟨bm, 2, none⟩) lm).trans m2
    have n3 := (hb2.cell (p := ⟨bm, 3, none⟩) lm).trans m3
    have p0 : (w2.setCell ⟨bm, 4, none⟩ (.int .u8 one)).cell? ⟨bm, 0, none⟩ = some (.int .u8 vn) := (cell_set_ne (by omega)).trans n0
    have p1 : (w2.setCell ⟨bm, 4, none⟩ (.int .u8 one)).cell? ⟨bm, 1, none⟩ = some (.int .u8 vk) := (cell_set_ne (by omega)).trans n1
    have p2 : (w2.setCell ⟨bm, 4, none⟩ (.int .u8 one)).cell? ⟨bm, 2, none⟩ = some (.int .u8 vb) := (cell_set_ne (by omega)).trans n2
    have p3 : (w2.setCell ⟨bm, 4, none⟩ (.int .u8 one)).cell? ⟨bm, 3, none⟩ = some (.int .u8 vp) := (cell_set_ne (by omega)).trans n3
    have p4 : (w2.setCell ⟨bm, 4, none⟩ (.int .u8 one)).cell? ⟨bm, 4, none⟩ = some (.int .u8 one) := cell_set_eq n4
    have hfar : ∀ i, (w2.setCell ⟨bm, 4, none⟩ (.int .u8 one)).cell? ⟨B3, i, none⟩ = wc.cell? ⟨B3, i, none⟩ := fun i => (World.cell?_of_block (w := w2) (Below.heap_setCell _ _ _ _ hne')).trans (hb2.cell (p := ⟨B3, i, none⟩) l3)
    have s0 := (hfar 0).trans q0
    have s1 := (hfar 1).trans q1
    have s2 := (hfar 2).trans q2
    have s3 := (hfar 3).trans q3
    have s4 := (hfar 4).trans q4
    have sf : ∀ i, (w2.setCell ⟨bm, 4, none⟩ (.int .u8 one)).frozen? ⟨B3, i, none⟩ = false := fun i => by rw [World.frozen?_setCell]; exact (hb2.frozen (p := ⟨B3, i, none⟩) l3).trans (qf i)
    have hw1 : Below w.heap.size w (w2.setCell ⟨bm, 4, none⟩ (.int .u8 one)) := (hwc.trans (hb2.mono hwc.size)).setCell (p := ⟨bm, 4, none⟩) hlb _
    clear hfar n0 n1 n2 n3 n4 nf m0 m1 m2 m3 m4 mf q0 q1 q2 q3 q4 qf k1 k2 hwc HD lm l3 hb2
    generalize w2.setCell ⟨bm, 4, none⟩ (.int .u8 one) = W2 at *
    clear w2 wc
    have q0 := s0
    have q1 := s1
    have q2 := s2
    have q3 := s3
    have q4 := s4
    clear s0 s1 s2 s3 s4
    go_wp2_with fail
    have hfin : ∀ i, i < 5 → ((((((W2).setCell ⟨B3, 0, none⟩ (.int .u8 vn)).setCell ⟨B3, 1, none⟩ (.int .u8 vk)).setCell ⟨B3, 2, none⟩ (.int .u8 vb)).setCell ⟨B3, 3, none⟩ (.int .u8 vp)).setCell ⟨B3, 4, none⟩ (.int .u8 one)).cell? ⟨B3, i, none⟩ = (#[.int .u8 vn, .int .u8 vk, .int .u8 vb, .int .u8 vp, .int .u8 one] : Array Value)[i]? := fun i hi => stored5 ⟨q0, q1, q2, q3, q4⟩ i hi
    have hlow : Below w.heap.size w ((((((W2).setCell ⟨B3, 0, none⟩ (.int .u8 vn)).setCell ⟨B3, 1, none⟩ (.int .u8 vk)).setCell ⟨B3, 2, none⟩ (.int .u8 vb)).setCell ⟨B3, 3, none⟩ (.int .u8 vp)).setCell ⟨B3, 4, none⟩ (.int .u8 one)) := below_set5 hw1 hlt0 _ _ _ _ _
    generalize (((((W2).setCell ⟨B3, 0, none⟩ (.int .u8 vn)).setCell ⟨B3, 1, none⟩ (.int .u8 vk)).setCell ⟨B3, 2, none⟩ (.int .u8 vb)).setCell ⟨B3, 3, none⟩ (.int .u8 vp)).setCell ⟨B3, 4, none⟩ (.int .u8 one) = Wf at *
    have r0 := hfin 0 (by omega)
    have r1 := hfin 1 (by omega)
    have r2 := hfin 2 (by omega)
    have r3 := hfin 3 (by omega)
    have r4 := hfin 4 (by omega)
    clear hfin
    refine bodyPost_ret (v := .agg #[.int .u8 vn, .int .u8 vk, .int .u8 vb, .int .u8 vp, .int .u8 one]) ?hres rfl ?hpost
    case hres => simp [results, Tryz.results32, go_sem, r0, r1, r2, r3, r4]
    case hpost => first | exact ⟨rfl, hlow⟩ | exact ⟨rfl, hg0 ▸ hlow⟩

end Go.Proofs.YtbkmfomdhjhkpaaGreat
