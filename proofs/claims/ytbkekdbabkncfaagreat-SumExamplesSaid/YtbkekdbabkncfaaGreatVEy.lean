/- More calls at the data of the examples. -/
import Derived.Test.YtbkekdbabkncfaaGreatVAl

namespace Go.Proofs.YtbkekdbabkncfaaGreat
open Go.RowKit Go.Maps

theorem WhesAt.lat {w w' : World} {A : Option Addr} {l : List Whe} (h : WhesAt w w.heap.size A l) (hb : Below w.heap.size w w') : WhesAt w' w'.heap.size A l := Flat.later h hb
theorem sum_g {l : List SubD} {A : Option Addr} {c : Nat} {W : Option Addr} {wc : Nat} {w : World} (lo hi step p b E : Int) (he : sumP 2 exT ⟨[⟨0, lo, hi⟩], 1, 800, step⟩ = p ∧ sumB 2 exT ⟨[⟨0, lo, hi⟩], 1, 800, step⟩ = b ∧ askE 2 exT ⟨[⟨0, lo, hi⟩], 1, 800, step⟩ = E) (hl : l.map SubD.v = exT) (h : SubsAt w w.heap.size A l) (hq : WhesAt w w.heap.size W [⟨0, lo, hi⟩]) :
    Calls Tryz.prog 14 #[.int .i64 2, .slice A l.length c, .agg #[.slice W 1 wc, .int .i64 1, .int .i64 800, .int .i64 step]] w fun e w' => e = .returned (.tuple #[.int .i64 p, .int .i64 b, .int .i64 E]) ∧ Below w.heap.size w w' := by
  have hs := ex_small hl
  have h1 := sumP_any 2 l A c [⟨0, lo, hi⟩] 1 800 step W wc w h (by rw [hs.1]; decide) hs.2 hq (by unfold maxLen; simp)
  rw [hl, he.1, he.2.1, he.2.2] at h1
  exact h1
theorem sum_e1 : sumP 2 exT ⟨[⟨0, 30, 60⟩], 1, 800, 300⟩ = 2100 ∧ sumB 2 exT ⟨[⟨0, 30, 60⟩], 1, 800, 300⟩ = 900 ∧ askE 2 exT ⟨[⟨0, 30, 60⟩], 1, 800, 300⟩ = 0 := by decide +kernel
theorem sum_e2 : sumP 2 exT ⟨[⟨0, 30, 45⟩], 1, 800, 100⟩ = 1200 ∧ sumB 2 exT ⟨[⟨0, 30, 45⟩], 1, 800, 100⟩ = 800 ∧ askE 2 exT ⟨[⟨0, 30, 45⟩], 1, 800, 100⟩ = 0 := by decide +kernel
theorem sum_e3 : sumP 2 exT ⟨[⟨0, 30, 45⟩], 1, 800, 0⟩ = 0 ∧ sumB 2 exT ⟨[⟨0, 30, 45⟩], 1, 800, 0⟩ = 0 ∧ askE 2 exT ⟨[⟨0, 30, 45⟩], 1, 800, 0⟩ = 101 := by decide +kernel
theorem meets_bad {l : List SubD} {A : Option Addr} {c : Nat} {W : Option Addr} {wc : Nat} {w : World} (hl : l.map SubD.v = exT) (h : SubsAt w w.heap.size A l) (hq : WhesAt w w.heap.size W [⟨0, 30, 45⟩]) :
    Calls Tryz.prog 21 #[.int .i64 1, .slice A l.length c, .agg #[.slice W 1 wc, .int .i64 1, .int .i64 800, .int .i64 0]] w fun e w' => ∃ A' c', e = .returned (.tuple #[.slice A' 0 c', .int .i64 100]) ∧ Below w.heap.size w w' := by
  have hs := ex_small hl
  refine (meetsP_any 1 l A c [⟨0, 30, 45⟩] 1 800 0 W wc w h (by rw [hs.1]; decide) hs.2 hq (by decide)).mono ?_
  rw [hl]
  rintro e w' h1
  have hm : metV 1 exT ⟨[⟨0, 30, 45⟩], 1, 800, 0⟩ = [] ∧ askE 1 exT ⟨[⟨0, 30, 45⟩], 1, 800, 0⟩ = 100 := by decide +kernel
  rw [hm.1, hm.2] at h1
  obtain ⟨A', c', rfl, _, hb⟩ := h1
  exact ⟨A', c', rfl, hb⟩
theorem check_bad (w : World) : Calls Tryz.prog 22 #[.int .i64 0, .slice none 0 0] w fun e w' => e = .returned (.int .i64 100) ∧ Below w.heap.size w w' := by
  have h1 := checkU_any 0 [] none 0 w ⟨fun k hk => by simp at hk, fun x hx => by cases hx⟩ (by decide) (fun x hx => by cases hx)
  have hE : tabE 0 (([] : List SubD).map SubD.v) = 100 := by decide +kernel
  rw [hE] at h1
  exact h1
/-- An audit that is not valid. -/
theorem deduced_oth {l : List SubD} {A : Option Addr} {c : Nat} {Wa Wb : Option Addr} {ca cb : Nat} {w : World} (hl : l.map SubD.v = exT) (h : SubsAt w w.heap.size A l) (ha : WhesAt w w.heap.size Wa [⟨0, 30, 45⟩]) (hb : WhesAt w w.heap.size Wb [⟨0, 30, 45⟩]) :
    Calls Tryz.prog 19 #[.int .i64 2, .slice A l.length c, .slice (some ⟨w.heap.size, 0, none⟩) 2 2] (w.alloc (.cells #[.slice Wa 1 ca, .int .i64 1, .int .i64 800, .int .i64 100, .slice Wb 1 cb, .int .i64 1, .int .i64 700, .int .i64 100] 25)) fun e w' => e = .returned (.tuple #[.slice none 0 0, .int .i64 102]) ∧ Below w.heap.size w w' := by
  have bB := (Below.refl w.heap.size w).alloc (Nat.le_refl _) (.cells #[.slice Wa 1 ca, .int .i64 1, .int .i64 800, .int .i64 100, .slice Wb 1 cb, .int .i64 1, .int .i64 700, .int .i64 100] 25)
  have k3 := Blk.new w #[.slice Wa 1 ca, .int .i64 1, .int .i64 800, .int .i64 100, .slice Wb 1 cb, .int .i64 1, .int .i64 700, .int .i64 100] 25
  have hQ : QuesAt (w.alloc (.cells #[.slice Wa 1 ca, .int .i64 1, .int .i64 800, .int .i64 100, .slice Wb 1 cb, .int .i64 1, .int .i64 700, .int .i64 100] 25)) (w.alloc (.cells #[.slice Wa 1 ca, .int .i64 1, .int .i64 800, .int .i64 100, .slice Wb 1 cb, .int .i64 1, .int .i64 700, .int .i64 100] 25)).heap.size (some ⟨w.heap.size, 0, none⟩) [⟨agQ 30 45, Wa, ca⟩, ⟨⟨[⟨0, 30, 45⟩], 1, 700, 100⟩, Wb, cb⟩] := by
    refine ⟨fun k hk => ?_, fun x hx => ?_⟩
    · have h3 : k = 0 ∨ k = 1 := by simp only [List.length_cons, List.length_nil] at hk; omega
      rcases h3 with rfl | rfl
      all_goals
        refine ⟨_, 0, rfl, k3.lt, fun i hi => ?_⟩
        rw [k3.cell]
        have h2 : i = 0 ∨ i = 1 ∨ i = 2 ∨ i = 3 := by omega
        rcases h2 with rfl | rfl | rfl | rfl <;> rfl
    · simp only [List.mem_cons, List.not_mem_nil, or_false] at hx
      rcases hx with rfl | rfl
      · exact ha.later bB
      · exact hb.later bB
  have hs := ex_small hl
  refine (deduced_bad 2 l A c [⟨agQ 30 45, Wa, ca⟩, ⟨⟨[⟨0, 30, 45⟩], 1, 700, 100⟩, Wb, cb⟩] (some ⟨w.heap.size, 0, none⟩) 2 _ 102 (.inr rfl) (fun W hW => openAudit_bad2 2 l A c _ _ 2 W ((h.later bB).later hW) hs.2 by_all (by rw [hl]; exact tab_ex) (hQ.later hW) (fun x hx => ?_) (by simp) (by rw [avl_v]; exact avlO))).mono ?_
  · simp only [List.mem_cons, List.not_mem_nil, or_false] at hx
    rcases hx with rfl | rfl <;> (unfold maxLen; simp [agQ])
  · rintro e w' ⟨rfl, h2⟩
    exact ⟨rfl, bB.trans (h2.mono (by simp))⟩
theorem fnd123 : fndI [1, 2, 3] 1 = some 0 ∧ fndI [1, 2, 3] 2 = some 1 ∧ fndI [1, 2, 3] 4 = none := by decide +kernel
theorem how_x32 (l : List SubD) (A : Option Addr) (c : Nat) {b : Nat} (q : List QueD) (w : World) (hl : l.map SubD.v = exT) (h : SubsAt w w.heap.size A l) (hq : q.map QueD.v = exQ3) (hQ : QuesAt w w.heap.size (some ⟨b, 0, none⟩) q) :
    Calls Tryz.prog 16 #[.int .i64 2, .slice A l.length c, .slice (some ⟨b, 0, none⟩) 3 3, .int .i64 2] w fun e w' => ∃ A' c', e = .returned (.tuple #[.slice A' 3 c', .int .i64 1, .int .i64 0]) ∧ Hid (IntsAt w' w'.heap.size A' [1, 1, -1]) ∧ Below w.heap.size w w' := by
  have := how_x (k := 1) (r := [1, 1, -1]) (c := c) (sc := 3) 2 hl h hQ (by rw [hq]; exact fit3) (by rw [hq, fnd123.2.1]; exact how32)
  rw [len3 hq] at this
  exact this
theorem how_n34 (l : List SubD) (A : Option Addr) (c : Nat) {b : Nat} (q : List QueD) (w : World) (hl : l.map SubD.v = exT) (h : SubsAt w w.heap.size A l) (hq : q.map QueD.v = exQ3) (hQ : QuesAt w w.heap.size (some ⟨b, 0, none⟩) q) :
    Calls Tryz.prog 16 #[.int .i64 2, .slice A l.length c, .slice (some ⟨b, 0, none⟩) 3 3, .int .i64 4] w fun e w' => e = .returned (.tuple #[.slice none 0 0, .int .i64 0, .int .i64 6]) ∧ Below w.heap.size w w' := by
  have := how_none (c := c) (sc := 3) 4 hl h hQ (by rw [hq]; exact fit3) (by rw [fnd123.2.2]; rfl)
  rw [len3 hq] at this
  exact this
theorem how_n21 (l : List SubD) (A : Option Addr) (c : Nat) {b : Nat} (q : List QueD) (w : World) (hl : l.map SubD.v = exT) (h : SubsAt w w.heap.size A l) (hq : q.map QueD.v = exQ3) (hQ : QuesAt w w.heap.size (some ⟨b, 0, none⟩) q) :
    Calls Tryz.prog 16 #[.int .i64 2, .slice A l.length c, .slice (some ⟨b, 0, none⟩) 2 3, .int .i64 1] w fun e w' => e = .returned (.tuple #[.slice none 0 0, .int .i64 0, .int .i64 6]) ∧ Below w.heap.size w w' := by
  obtain ⟨h2, hn⟩ := take2 hq
  have := how_none (c := c) (sc := 3) 1 hl h (hQ.take 2) (by rw [h2]; exact fit2) (by rw [h2, fnd123.1]; exact how21)
  rw [hn] at this
  exact this
theorem hid_n31 (l : List SubD) (A : Option Addr) (c : Nat) {b : Nat} (q : List QueD) (w : World) (hl : l.map SubD.v = exT) (h : SubsAt w w.heap.size A l) (hq : q.map QueD.v = exQ3) (hQ : QuesAt w w.heap.size (some ⟨b, 0, none⟩) q) :
    Calls Tryz.prog 20 #[.int .i64 2, .slice A l.length c, .slice (some ⟨b, 0, none⟩) 3 3, .int .i64 1] w fun e w' => e = .returned (.tuple #[.slice none 0 0, .int .i64 6]) ∧ Below w.heap.size w w' := by
  have := hide_none (c := c) (sc := 3) 1 hl h hQ (by rw [hq]; exact fit3) (by rw [hq, fnd123.1]; exact hid31)
  rw [len3 hq] at this
  exact this
theorem hid_n34 (l : List SubD) (A : Option Addr) (c : Nat) {b : Nat} (q : List QueD) (w : World) (hl : l.map SubD.v = exT) (h : SubsAt w w.heap.size A l) (hq : q.map QueD.v = exQ3) (hQ : QuesAt w w.heap.size (some ⟨b, 0, none⟩) q) :
    Calls Tryz.prog 20 #[.int .i64 2, .slice A l.length c, .slice (some ⟨b, 0, none⟩) 3 3, .int .i64 4] w fun e w' => e = .returned (.tuple #[.slice none 0 0, .int .i64 6]) ∧ Below w.heap.size w w' := by
  have := hide_none (c := c) (sc := 3) 4 hl h hQ (by rw [hq]; exact fit3) (by rw [hq, fnd123.2.2]; rfl)
  rw [len3 hq] at this
  exact this
end Go.Proofs.YtbkekdbabkncfaaGreat
