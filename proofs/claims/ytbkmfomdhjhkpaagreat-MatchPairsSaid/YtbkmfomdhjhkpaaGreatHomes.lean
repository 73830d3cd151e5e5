/- Who was at one place on a day: what is told, the test of a stay, and the map that the program fills. -/
import Derived.Test.YtbkmfomdhjhkpaaGreatPairsW
import Derived.Test.YtbkmfomdhjhkpaaGreatIterI
import Derived.Maps.RangeWalk
namespace Go.Proofs.YtbkmfomdhjhkpaaGreat
open Go.RowKit Go.Maps

/-! What is told. -/
def onDay (day : Int) (s : Stay) : Bool := inB day s.f s.t
def atB (day p : Int) (r : Rec) : Bool := (ofP r.stays p).any (onDay day)
def idsAt (day p : Int) (l : List Rec) : List Int := (l.filter (atB day p)).map Rec.id
def placesL (day : Int) (l : List Rec) : List Int := ((l.flatMap fun r => (r.stays.filter (onDay day)).map (·.p)).eraseDups).mergeSort fun x y => decide (x ≤ y)
def homesL (day : Int) (l : List Rec) : List (List Int) := (placesL day l).map fun p => idsAt day p l
def homesE (day : Int) (l : List Rec) : Int := if inB day 0 100000 = true then recsE l else 2
def homesV (day : Int) (l : List Rec) : List (List Int) := if homesE day l = 0 then homesL day (sortR l) else []

theorem idsAt_snoc (day p : Int) (l : List Rec) (r : Rec) : idsAt day p (l ++ [r]) = idsAt day p l ++ if atB day p r = true then [r.id] else [] := by
  unfold idsAt
  rw [List.filter_append, List.map_append]
  congr 1
  by_cases h : atB day p r = true
  · rw [if_pos h, List.filter_cons_of_pos h]; rfl
  · rw [if_neg h, List.filter_cons_of_neg h]; rfl
theorem placesL_mem (day p : Int) (l : List Rec) : p ∈ placesL day l ↔ idsAt day p l ≠ [] := by
  unfold placesL idsAt
  rw [(List.mergeSort_perm _ _).mem_iff, List.mem_eraseDups, List.mem_flatMap]
  constructor
  · rintro ⟨r, hr, h⟩ e
    obtain ⟨s, hs, rfl⟩ := List.mem_map.1 h
    obtain ⟨hs1, hs2⟩ := List.mem_filter.1 hs
    have hb : atB day s.p r = true := List.any_eq_true.2 ⟨s, List.mem_filter.2 ⟨hs1, by simp⟩, hs2⟩
    have : r ∈ l.filter (atB day s.p) := List.mem_filter.2 ⟨hr, hb⟩
    rw [List.map_eq_nil_iff.1 e] at this
    cases this
  · intro h
    obtain ⟨r, hr⟩ := List.exists_mem_of_ne_nil _ (fun e => h (by rw [e]; rfl) : l.filter (atB day p) ≠ [])
    obtain ⟨hr1, hr2⟩ := List.mem_filter.1 hr
    obtain ⟨s, hs, hd⟩ := List.any_eq_true.1 hr2
    obtain ⟨hs1, hs2⟩ := List.mem_filter.1 hs
    exact ⟨r, hr1, List.mem_map.2 ⟨s, List.mem_filter.2 ⟨hs1, hd⟩, by simpa using hs2⟩⟩
theorem eraseDups_nodup : ∀ (n : Nat) (l : List Int), l.length ≤ n → l.eraseDups.Nodup
  | 0, l, h => by rw [List.eq_nil_of_length_eq_zero (by omega : l.length = 0)]; simp
  | n + 1, [], _ => by simp
  | n + 1, x :: l, h => by
    rw [List.eraseDups_cons, List.nodup_cons]
    refine ⟨fun hm => ?_, eraseDups_nodup n _ (by have := List.length_filter_le (fun b => !b == x) l; simp at h; omega)⟩
    rw [List.mem_eraseDups] at hm
    have := (List.mem_filter.1 hm).2
    simp at this
theorem uniq_ints : ∀ a b : List Int, (∀ x, x ∈ a ↔ x ∈ b) → a.Pairwise (· < ·) → b.Pairwise (· < ·) → a = b
  | [], [], _, _, _ => rfl
  | [], y :: b, h, _, _ => by have := (h y).2 (by simp); cases this
  | x :: a, [], h, _, _ => by have := (h x).1 (by simp); cases this
  | x :: a, y :: b, h, ha, hb => by
    rw [List.pairwise_cons] at ha hb
    have e : x = y := by
      have h1 := (h x).1 (by simp)
      have h2 := (h y).2 (by simp)
      rcases List.mem_cons.1 h1 with h1 | h1
      · exact h1
      · rcases List.mem_cons.1 h2 with h2 | h2
        · exact h2.symm
        · have := hb.1 x h1; have := ha.1 y h2; omega
    subst e
    rw [uniq_ints a b (fun z => ?_) ha.2 hb.2]
    have hz := h z
    simp only [List.mem_cons] at hz
    constructor
    · intro hza
      rcases hz.1 (.inr hza) with e | e
      · subst e; have := ha.1 z hza; omega
      · exact e
    · intro hzb
      rcases hz.2 (.inr hzb) with e | e
      · subst e; have := hb.1 z hzb; omega
      · exact e
theorem sortI_strict {l : List Int} (hn : l.Nodup) : (l.mergeSort fun x y => decide (x ≤ y)).Pairwise (· < ·) := by
  have h1 := List.pairwise_mergeSort (le := fun a b : Int => decide (a ≤ b)) (fun a b c h1 h2 => by simp at *; omega) (fun a b => by simp; omega) l
  have h2 : (l.mergeSort fun x y => decide (x ≤ y)).Nodup := (List.mergeSort_perm _ _).nodup_iff.2 hn
  exact (h1.and h2).imp fun ⟨h, k⟩ => by simp at h; omega
theorem placesL_eq {day : Int} {l : List Rec} {ks : List Int} (hn : ks.Nodup) (hm : ∀ p, p ∈ ks ↔ idsAt day p l ≠ []) : (ks.mergeSort fun x y => decide (x ≤ y)) = placesL day l :=
  uniq_ints _ _ (fun p => by rw [(List.mergeSort_perm _ _).mem_iff, hm, placesL_mem]) (sortI_strict hn) (sortI_strict (eraseDups_nodup _ _ (Nat.le_refl _)))

/-! The test of a stay. -/
set_option maxHeartbeats 400000 in
theorem homesTest_any (s : Stay) (day : Int) (db : Nat) (W : World) (hd : W.cell? ⟨db, 0, none⟩ = some (.int .i64 day)) (hdb : db < W.heap.size) :
    Calls Tryz.prog 37 #[.agg #[.int .i64 s.p, .int .i64 s.f, .int .i64 s.t], .pointer (some ⟨db, 0, none⟩)] W fun e w' => e = .returned (.bool (onDay day s)) ∧ Below W.heap.size W w' := by
  have hb : Below W.heap.size W (W.alloc (.cells #[.int .i64 s.p, .int .i64 s.f, .int .i64 s.t] 75)) := (Below.refl _ _).alloc (Nat.le_refl _) _
  have hd2 := (hb.cell (p := ⟨db, 0, none⟩) hdb).trans hd
  go_enter Tryz.func37, Tryz.ntmps37
  go_wp2_with (go_at_call 35; refine (within_any _ _ _ _).mono ?_; rintro e w' ⟨rfl, rfl⟩)
  go_ret
  exact ⟨rfl, hb⟩

set_option maxHeartbeats 1000000 in
theorem indexStay_any (l : List Stay) (day : Int) (A : Option Addr) (c db : Nat) (w : World) (hst : Stays w w.heap.size A l) (hl : l.length ≤ 1000) (hd : w.cell? ⟨db, 0, none⟩ = some (.int .i64 day)) (hdb : db < w.heap.size) :
    Calls Tryz.prog 66 #[.slice A l.length c, .func (.func 37) #[] #[.pointer (some ⟨db, 0, none⟩)]] w fun e w' => ∃ n : Int, e = .returned (.int .i64 n) ∧ Hid (decide (0 ≤ n) = l.any (onDay day)) ∧ Below w.heap.size w w' := by
  go_enter Tryz.func66, Tryz.ntmps66
  go_wp2_with fail
  go_loopw [8] (fun ii wr => ∃ i : Nat, i ≤ l.length ∧ ii = .int .i64 i ∧ Hid ((l.take i).any (onDay day) = false) ∧ Below w.heap.size w wr) (fun ii _ => l.length - (intOf ii).toNat)
  case atStart => exact ⟨0, Nat.zero_le _, rfl, Lib.hid (by simp), Below.refl _ _⟩
  case round =>
    obtain ⟨i, hi, rfl, hall, hbel⟩ := hrel
    by_cases hlt : i < l.length
    · have hil : (i : Int) < (l.length : Int) := by omega
      obtain ⟨b, off, rfl, hb, c1, c2, c3⟩ := (hst.below hbel) i hlt
      have HN := Lib.hid (fun hf => any_next (onDay day) l i hlt hall.out hf)
      have HS := Lib.hid (any_stop (onDay day) l i hlt)
      have hdw := (hbel.cell (p := ⟨db, 0, none⟩) hdb).trans hd
      have hbs := hbel.size
      have HT := Lib.hid (homesTest_any l[i] day db wr hdw (by omega))
      generalize l[i] = s at *
      clear hdw hall
      cases hv : onDay day s with
      | true =>
        rw [hv] at HT
        have HS2 := Lib.hid (HS.out hv)
        clear HN HS hv
        go_wp2_with (go_at_call 37; with_reducible refine (HT.out).mono ?_; rintro e w1 ⟨rfl, h1⟩)
        go_ret
        exact ⟨_, rfl, Lib.hid (by rw [HS2.out]; simp), hbel.trans (h1.mono hbs)⟩
      | false =>
        rw [hv] at HT
        have HN2 := Lib.hid (HN.out hv)
        clear HN HS hv
        go_wp2_with (go_at_call 37; with_reducible refine (HT.out).mono ?_; rintro e w1 ⟨rfl, h1⟩)
        go_roundw
        case rel => exact ⟨i + 1, by omega, by go_num, HN2, hbel.trans (h1.mono hbs)⟩
        case measure => simp [intOf]; omega
    · have hil : ¬ (i : Int) < (l.length : Int) := by omega
      have hout := Lib.hid (any_end _ l i hlt hall.out)
      clear hall
      go_wp2_with fail
      go_ret
      exact ⟨_, rfl, Lib.hid (by rw [hout.out]; rfl), hbel⟩

set_option maxHeartbeats 1000000 in
theorem containsStay_any (l : List Stay) (day : Int) (A : Option Addr) (c db : Nat) (w : World) (hst : Stays w w.heap.size A l) (hl : l.length ≤ 1000) (hd : w.cell? ⟨db, 0, none⟩ = some (.int .i64 day)) (hdb : db < w.heap.size) :
    Calls Tryz.prog 36 #[.slice A l.length c, .func (.func 37) #[] #[.pointer (some ⟨db, 0, none⟩)]] w fun e w' => e = .returned (.bool (l.any (onDay day))) ∧ Below w.heap.size w w' := by
  have HI := Lib.hid (indexStay_any l day A c db w hst hl hd hdb)
  clear hst hd
  go_enter Tryz.func36, Tryz.ntmps36
  go_wp2_with (go_at_call 66; with_reducible refine (HI.out).mono ?_; rintro e w1 ⟨n, rfl, hn, h1⟩)
  go_ret
  exact ⟨ret_bool hn.out, h1⟩

end Go.Proofs.YtbkmfomdhjhkpaaGreat
