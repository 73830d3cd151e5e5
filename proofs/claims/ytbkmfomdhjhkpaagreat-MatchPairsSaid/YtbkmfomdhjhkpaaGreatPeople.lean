/- Records at work, in the order of their numbers: the program's people. -/
import Derived.Test.YtbkmfomdhjhkpaaGreatInOrd
import Derived.Test.YtbkmfomdhjhkpaaGreatOne
namespace Go.Proofs.YtbkmfomdhjhkpaaGreat
open Go.RowKit Go.Maps

def PD.rd (x : PD) : RD := ⟨x.r, x.A, x.c, x.D, x.d⟩

theorem ByPlace.grown {w w' : World} {m : Nat} {l : List Stay} {row : Option Nat} (h : ByPlace w m l) (hg : w.grownBy w' row) (hrow : ∀ g, row = some g → ∃ cur, w.heap[g]? = some (.cells cur 83 (0, 0))) : ByPlace w' m l := by
  obtain ⟨G, n, base, hn, hG⟩ := h
  refine ⟨G, n, base, hn, ⟨hG.map.kept hg (fun e => ?_), fun p => (hG.row p).kept hg ?_, hG.far, hG.low⟩⟩
  · obtain ⟨cur, hc⟩ := hrow m e.symm
    obtain ⟨D, ⟨es, clock, h1, _⟩, _⟩ := hG.map
    rw [h1] at hc
    cases hc
  · rcases (hG.row p).2 with ⟨hv, _⟩ | ⟨g, cap, cur, hv, _, hb, _⟩
    · left; rw [hv]; rfl
    · right; intro e
      rw [hv] at e
      obtain ⟨cur', hc⟩ := hrow g e.symm
      rw [hb] at hc
      simp at hc
theorem own_below {w w' : World} {base : Nat} {e : TypeId} {size : Nat} {v : Value} {n : Nat} {xs : List Value} (h : w.ownsRow base e size v n xs) (hb : Below w.heap.size w w') : w'.ownsRow base e size v n xs := by
  refine ⟨h.1, ?_⟩
  rcases h.2 with h0 | ⟨g, cap, cur, h1, h2, h3, h4⟩
  · exact .inl h0
  · exact .inr ⟨g, cap, cur, h1, h2, (hb.block g (Array.getElem?_eq_some_iff.1 h3).1).trans h3, h4⟩
theorem own_cells {w : World} {base : Nat} {e : TypeId} {size : Nat} {v : Value} {n : Nat} {xs : List Value} (h : w.ownsRow base e size v n xs) : ∀ g, v.ownBlock = some g → ∃ cur, w.heap[g]? = some (.cells cur e (0, 0)) := fun g hg => by
  rcases h.2 with ⟨h0, _⟩ | ⟨g', cap, cur, h1, _, h3, _⟩
  · rw [h0] at hg; cases hg
  · rw [h1] at hg
    have : g' = g := by simpa [Value.ownBlock] using hg
    subst this
    exact ⟨cur, h3⟩

set_option maxRecDepth 100000 in
set_option maxHeartbeats 2000000 in
theorem people_any (l : List RD) (A : Option Addr) (c : Nat) (w : World) (h : Recs w w.heap.size A l) (hl : l.length ≤ 24) (hok : recsB l = true) :
    Calls Tryz.prog 31 #[.slice A l.length c] w fun e w' => ∃ A' c', ∃ pl : List PD, e = .returned (.slice A' pl.length c') ∧ (pl.map PD.rd).Perm l ∧ pl.Pairwise (fun x y => x.r.id ≤ y.r.id) ∧ PCells w' w'.heap.size A' pl ∧ (∀ x ∈ pl, ByPlace w' x.m x.r.stays) ∧ (∀ x ∈ pl, w.heap.size ≤ x.m) ∧ Below w.heap.size w w' := by
  obtain ⟨i0, hi0, hz0, hz1, hz2⟩ := info_parts personInfo
  have Hok := Lib.hid hok
  clear hok
  go_enter Tryz.func31, Tryz.ntmps31
  go_wp2_with fail
  go_loopw [3, 8] (fun v ii wr => ∃ i : Nat, i ≤ l.length ∧ ii = .int .i64 i ∧ ∃ pl : List PD, Hid (wr.ownsRow w.heap.size 83 9 v i (pdCells pl) ∧ pl.map PD.rd = l.take i ∧ (∀ x ∈ pl, ByPlace wr x.m x.r.stays) ∧ (∀ x ∈ pl, w.heap.size ≤ x.m) ∧ Below w.heap.size w wr)) (fun _ ii _ => l.length - (intOf ii).toNat)
  case atStart => exact ⟨0, Nat.zero_le _, rfl, [], Lib.hid ⟨World.ownsRow_nil _ _ _ _, by simp, by simp, by simp, Below.refl _ _⟩⟩
  case round =>
    obtain ⟨i, hi, rfl, pl, hR⟩ := hrel
    obtain ⟨hown, hpl, hby, hms, hbel⟩ := hR.out
    clear hR
    by_cases hlt : i < l.length
    · have hil : (i : Int) < (l.length : Int) := by omega
      obtain ⟨b, off, rfl, hb, C, hr, _⟩ := (h.later hbel).eight hlt
      have hrec : recB l[i].r = true := by
        have := Hok.out
        unfold recsB at this
        rw [List.all_eq_true] at this
        exact this _ (List.getElem_mem hlt)
      have HT := Lib.hid (List.take_succ_eq_append_getElem (l := l) (i := i) hlt)
      generalize l[i] = x at *
      obtain ⟨c0, c1, c2, c3, c4, c5, c6, c7⟩ := C
      have hbx := hbel.alloc hbel.size (.cells #[.int .i64 x.r.id, .slice x.A x.r.names.length x.c, .int .u8 x.r.suf, .int .i64 x.r.lo, .int .i64 x.r.hi, .string x.r.num, .bool x.r.twin, .slice x.D x.r.stays.length x.d] 47)
      have hst := (hr.later ((Below.refl _ _).alloc (Nat.le_refl _) (.cells #[.int .i64 x.r.id, .slice x.A x.r.names.length x.c, .int .u8 x.r.suf, .int .i64 x.r.lo, .int .i64 x.r.hi, .string x.r.num, .bool x.r.twin, .slice x.D x.r.stays.length x.d] 47))).stays
      have HP := Lib.hid (newPerson_any x.r x.A x.D x.c x.d _ hst (recB_parts hrec).2.2.2.2.2)
      have hownx := hown.alloc (.cells #[.int .i64 x.r.id, .slice x.A x.r.names.length x.c, .int .u8 x.r.suf, .int .i64 x.r.lo, .int .i64 x.r.hi, .string x.r.num, .bool x.r.twin, .slice x.D x.r.stays.length x.d] 47)
      have hbyx : ∀ y ∈ pl, ByPlace (wr.alloc (.cells #[.int .i64 x.r.id, .slice x.A x.r.names.length x.c, .int .u8 x.r.suf, .int .i64 x.r.lo, .int .i64 x.r.hi, .string x.r.num, .bool x.r.twin, .slice x.D x.r.stays.length x.d] 47)) y.m y.r.stays := fun y hy => (hby y hy).grown (World.grownBy_alloc _ _ none) (fun g e => by cases e)
      have Hby := Lib.hid hbyx
      have Hms := Lib.hid hms
      have Hown := Lib.hid hownx
      have Hpl := Lib.hid hpl
      clear hrec hr hst hby hbyx hown hownx hpl hms
      go_wp2_with (first
        | (go_at_call 52; with_reducible refine (HP.out).mono ?_; rintro e w1 ⟨m, rfl, hm, hb1, hP1⟩; have Hown1 := Lib.hid (own_below Hown.out hb1))
        | (at_builtin; refine wpList_append_own _ rfl _ _ 79 rfl w.heap.size 83 i0 _ 9 112 Tryz.underlying79 hi0 hz0 hz1 hz2 rfl (by decide) _ _ _ rfl (Hown1.out.alloc _) ⟨w1.heap.size, 0, none⟩ 1 1 (PD.cells ⟨x.r, x.A, x.c, x.D, x.d, m⟩) rfl rfl (cells_new9 w1 ⟨x.r, x.A, x.c, x.D, x.d, m⟩) (PD.cells_one _) (by unfold maxLen; omega) (by omega) (by have := hbx.size; have := hb1.size; simp at *; omega) ?_; intro v' w3 hown3 hg3 _))
      have hb4 : Below w.heap.size w w3 := ((hbx.trans (hb1.mono hbx.size)).alloc (Nat.le_trans hbx.size hb1.size) _).grown hg3 (Nat.le_trans (Nat.le_trans hbx.size hb1.size) (by simp)) (fun k e => (Hown1.out.lt k e).1)
      have hcells := own_cells (Hown1.out.alloc (Obj.cells #[.int .i64 x.r.id, .slice x.A x.r.names.length x.c, .int .u8 x.r.suf, .int .i64 x.r.lo, .int .i64 x.r.hi, .string x.r.num, .bool x.r.twin, .slice x.D x.r.stays.length x.d, .map (some m)] 83))
      have hby3 : ∀ y ∈ pl ++ [PD.mk x.r x.A x.c x.D x.d m], ByPlace w3 y.m y.r.stays := fun y hy => by
        rcases List.mem_append.1 hy with hy | hy
        · exact ((((Hby.out y hy).below hb1 (Nat.le_refl _)).grown (World.grownBy_alloc _ _ none) (fun g e => by cases e)).grown hg3 hcells)
        · simp only [List.mem_singleton] at hy
          subst hy
          exact ((hP1.grown (World.grownBy_alloc _ _ none) (fun g e => by cases e)).grown hg3 hcells)
      have hms3 : ∀ y ∈ pl ++ [PD.mk x.r x.A x.c x.D x.d m], w.heap.size ≤ y.m := fun y hy => by
        rcases List.mem_append.1 hy with hy | hy
        · exact Hms.out y hy
        · simp only [List.mem_singleton] at hy
          subst hy
          exact Nat.le_trans hbx.size hm
      have hpl3 : (pl ++ [PD.mk x.r x.A x.c x.D x.d m]).map PD.rd = l.take (i + 1) := by
        rw [HT.out, List.map_append, Hpl.out]; rfl
      have hown4 : w3.ownsRow w.heap.size 83 9 v' (i + 1) (pdCells (pl ++ [PD.mk x.r x.A x.c x.D x.d m])) := by rw [pdCells_snoc]; exact hown3
      have Hrel := Lib.hid (And.intro hown4 (And.intro hpl3 (And.intro hby3 (And.intro hms3 hb4))))
      clear hown3 hown4 hpl3 hby3 hms3 hb4 hcells hg3
      go_wp2_with fail
      go_roundw
      case rel => exact ⟨i + 1, by omega, by go_num, _, Hrel⟩
      case measure => simp [intOf]; omega
    · have hil : ¬ (i : Int) < (l.length : Int) := by omega
      have hall : l.take i = l := List.take_of_length_le (by omega)
      have hin : i = pl.length := by
        have := congrArg List.length hpl
        rw [hall] at this
        simp at this
        omega
      rw [hall] at hpl
      subst hin
      obtain ⟨A1, c1, rfl⟩ := own_slice hown
      have HI := Lib.hid (inOrderP_any A1 c1 pl (by omega) wr (PCells.of_own hown))
      have Hby := Lib.hid hby
      have Hpl := Lib.hid hpl
      have Hms := Lib.hid hms
      clear hown hpl hby hall hms
      go_wp2_with (go_at_call 55; with_reducible refine (HI.out).mono ?_; rintro e w2 ⟨A', c', l', rfl, hp, hs, hP, hb2⟩)
      go_ret
      refine ⟨A', c', l', rfl, ?_, hs, hP, fun x hx => (Hby.out x (hp.mem_iff.1 hx)).below hb2 (Nat.le_refl _), fun x hx => Hms.out x (hp.mem_iff.1 hx), hbel.trans (hb2.mono hbel.size)⟩
      rw [← Hpl.out]
      exact hp.map _

end Go.Proofs.YtbkmfomdhjhkpaaGreat
