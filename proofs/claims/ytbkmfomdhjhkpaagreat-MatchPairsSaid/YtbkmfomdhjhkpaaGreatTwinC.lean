/- A record in new memory: its slices have room for what they hold. -/
import Derived.Test.YtbkmfomdhjhkpaaGreatTwin
namespace Go.Proofs.YtbkmfomdhjhkpaaGreat
open Go.RowKit

/-- A slice of words that lies in blocks from lo to hi. -/
def StrsIn (w : World) (lo hi : Nat) (A : Option Addr) (l : List ByteArray) : Prop :=
  ∀ k, (h : k < l.length) → ∃ b off, A = some ⟨b, off, none⟩ ∧ lo ≤ b ∧ b < hi ∧ w.cell? ⟨b, off + k, none⟩ = some (.string l[k]) ∧ l[k].size ≤ maxLen
def StaysIn (w : World) (lo hi : Nat) (A : Option Addr) (l : List Stay) : Prop :=
  ∀ k, (h : k < l.length) → ∃ b off, A = some ⟨b, off, none⟩ ∧ lo ≤ b ∧ b < hi ∧ w.cell? ⟨b, off + k * 3, none⟩ = some (.int .i64 l[k].p) ∧ w.cell? ⟨b, off + k * 3 + 1, none⟩ = some (.int .i64 l[k].f) ∧ w.cell? ⟨b, off + k * 3 + 2, none⟩ = some (.int .i64 l[k].t)
structure RecIn (w : World) (lo hi : Nat) (A D : Option Addr) (r : Rec) : Prop where
  strs : StrsIn w lo hi A r.names
  stays : StaysIn w lo hi D r.stays
  names_le : r.names.length ≤ maxLen
  stays_le : r.stays.length ≤ maxLen
  num_le : r.num.size ≤ maxLen
/-- Wherever those blocks are as they were, and there are more, the record stands. -/
theorem RecIn.at_ {w W : World} {lo hi : Nat} {A D : Option Addr} {r : Rec} (h : RecIn w lo hi A D r) (hag : ∀ b, lo ≤ b → b < hi → W.heap[b]? = w.heap[b]?) (hz : hi ≤ W.heap.size) : RecAt W W.heap.size A D r :=
  ⟨fun k hk => by
    obtain ⟨b, off, e, h1, h2, h3, h4⟩ := h.strs k hk
    exact ⟨b, off, e, by omega, (World.cell?_of_block (w := w) (hag b h1 h2)).trans h3, h4⟩, fun k hk => by
    obtain ⟨b, off, e, h1, h2, h3, h4, h5⟩ := h.stays k hk
    exact ⟨b, off, e, by omega, (World.cell?_of_block (w := w) (hag b h1 h2)).trans h3, (World.cell?_of_block (w := w) (hag b h1 h2)).trans h4, (World.cell?_of_block (w := w) (hag b h1 h2)).trans h5⟩, h.names_le, h.stays_le, h.num_le⟩

theorem strsIn_of_own {w : World} {lo base : Nat} (hlo : lo ≤ base) {A : Option Addr} {n c : Nat} {l : List ByteArray} (h : w.ownsRow base 9 1 (.slice A n c) n (l.map Value.string)) (hs : ∀ s ∈ l, s.size ≤ maxLen) : StrsIn w lo w.heap.size A l := by
  intro k hk
  have hn : n = l.length := by have := h.1; simpa using this.symm
  obtain ⟨g, cap, hv, hb, hlt⟩ := h.form (by omega)
  injection hv with hA
  subst hA
  refine ⟨g, 0, rfl, by omega, hlt, ?_, hs _ (List.getElem_mem hk)⟩
  have := h.cells (g := g) rfl k (.string l[k]) (by simp [hk])
  rwa [WideShapes.add_plain] at this
theorem staysIn_of_own {w : World} {lo base : Nat} (hlo : lo ≤ base) {A : Option Addr} {n c : Nat} {l : List Stay} (h : w.ownsRow base 75 3 (.slice A n c) n (stayCells l)) : StaysIn w lo w.heap.size A l := by
  intro k hk
  have hn : n = l.length := by have := h.1; rw [stayCells_length] at this; omega
  obtain ⟨g, cap, hv, hb, hlt⟩ := h.form (by omega)
  injection hv with hA
  subst hA
  obtain ⟨g1, g2, g3⟩ := stayCells_get l k hk
  have c1 := h.cells (g := g) rfl _ _ g1
  have c2 := h.cells (g := g) rfl _ _ g2
  have c3 := h.cells (g := g) rfl _ _ g3
  rw [WideShapes.add_plain] at c1 c2 c3
  exact ⟨g, 0, rfl, by omega, hlt, c1, c2, c3⟩

theorem own_lower {w : World} {base base' : Nat} {e : TypeId} {size : Nat} {v : Value} {n : Nat} {xs : List Value} (h : w.ownsRow base e size v n xs) (hb : base' ≤ base) : w.ownsRow base' e size v n xs := by
  refine ⟨h.1, ?_⟩
  rcases h.2 with h2 | ⟨g, cap, cur, h2, h3, h4⟩
  · exact .inl h2
  · exact .inr ⟨g, cap, cur, h2, by omega, h4⟩

set_option maxHeartbeats 400000 in
theorem twin_own (A D : Option Addr) (c d : Nat) (r : Rec) (w : World) (h : RecAt w w.heap.size A D r) (hn : r.names.length ≤ 1000) (hs : r.stays.length ≤ 1000) :
    Calls Tryz.prog 24 #[.agg #[.int .i64 r.id, .slice A r.names.length c, .int .u8 r.suf, .int .i64 r.lo, .int .i64 r.hi, .string r.num, .bool r.twin, .slice D r.stays.length d]] w fun e w' => ∃ A' c' D' d', e = .returned (.agg #[.int .i64 r.id, .slice A' r.names.length c', .int .u8 r.suf, .int .i64 r.lo, .int .i64 r.hi, .string r.num, .bool r.twin, .slice D' r.stays.length d']) ∧ w'.ownsRow w.heap.size 9 1 (.slice A' r.names.length c') r.names.length (r.names.map Value.string) ∧ w'.ownsRow w.heap.size 75 3 (.slice D' r.stays.length d') r.stays.length (stayCells r.stays) ∧ Below w.heap.size w w' ∧ r.names.length ≤ c' := by
  obtain ⟨i0, hi, hz0, hz1, hz2⟩ := info_parts stringInfo
  obtain ⟨j0, ki, kz0, kz1, kz2⟩ := info_parts stayInfo
  go_enter Tryz.func24, Tryz.ntmps24
  have hst0 := h.strs
  have hsy0 := h.stays
  have hown0 : (((w.alloc (.cells #[.int .i64 r.id, .slice A r.names.length c, .int .u8 r.suf, .int .i64 r.lo, .int .i64 r.hi, .string r.num, .bool r.twin, .slice D r.stays.length d] 47)).alloc (.cells #[.int .i64 0, .slice none 0 0, .int .u8 0, .int .i64 0, .int .i64 0, .string ByteArray.empty, .bool false, .slice none 0 0] 47)).alloc (.cells #[] 9)).ownsRow (w.heap.size + 2) 9 1 (.slice (some ⟨w.heap.size + 1 + 1, 0, none⟩) 0 0) 0 [] := by
    simpa using World.ownsRow_made (base := w.heap.size + 2) (e := 9) (size := 1) ((w.alloc (.cells #[.int .i64 r.id, .slice A r.names.length c, .int .u8 r.suf, .int .i64 r.lo, .int .i64 r.hi, .string r.num, .bool r.twin, .slice D r.stays.length d] 47)).alloc (.cells #[.int .i64 0, .slice none 0 0, .int .u8 0, .int .i64 0, .int .i64 0, .string ByteArray.empty, .bool false, .slice none 0 0] 47)) #[] 0 (by simp) (by simp [maxLen]) (by simp)
  go_wp2_with (at_builtin; refine wpList_append_src _ rfl (.tmp 3) (.tmp 5) 42 rfl (w.heap.size + 2) 9 i0 _ 1 16 Tryz.underlying42 hi hz0 hz1 hz2 rfl (by decide) _ 0 [] rfl ?a1 A r.names.length c (r.names.map Value.string) rfl ?a2 ?a3 ?a4 ?a5 ?a6 ?a7 ?a8 ?_)
  case a1 => exact hown0
  case a2 => simp
  case a3 => rintro rfl; exact hst0.none_
  case a4 => exact (((hst0.alloc (Nat.le_refl _) _).alloc (by simp) _).alloc (by simp; omega) _).news
  case a5 => intro u hu; simp only [List.mem_map] at hu; obtain ⟨_, _, rfl⟩ := hu; rfl
  case a6 => unfold maxLen; omega
  case a7 => omega
  case a8 => simp
  intro v1 w1 hown1 hg1 hat1
  obtain ⟨A1, c1, rfl⟩ := own_slice hown1
  have hb1 : Below (w.heap.size + 2) (((w.alloc (.cells #[.int .i64 r.id, .slice A r.names.length c, .int .u8 r.suf, .int .i64 r.lo, .int .i64 r.hi, .string r.num, .bool r.twin, .slice D r.stays.length d] 47)).alloc (.cells #[.int .i64 0, .slice none 0 0, .int .u8 0, .int .i64 0, .int .i64 0, .string ByteArray.empty, .bool false, .slice none 0 0] 47)).alloc (.cells #[] 9)) w1 :=
    (Below.refl _ _).grown hg1 (by simp) (by intro k hk; simp [Value.ownBlock] at hk; omega)
  have hz1' := hb1.size
  simp only [World.size_alloc] at hz1'
  have hbw1 : Below w.heap.size w w1 := ((((Below.refl _ _).alloc (Nat.le_refl _) _).alloc (by simp) _).alloc (by simp; omega) _).trans (hb1.mono (by omega))
  have hz2' : w.heap.size < w1.heap.size := by omega
  have hz3' : w.heap.size + 1 < w1.heap.size := by omega
  have B1 : Blk w1 w.heap.size #[.int .i64 r.id, .slice A r.names.length c, .int .u8 r.suf, .int .i64 r.lo, .int .i64 r.hi, .string r.num, .bool r.twin, .slice D r.stays.length d] 47 := (((Blk.new w _ _).alloc _).alloc _).below hb1 (by omega)
  have R1 : Blk w1 (w.heap.size + 1) #[.int .i64 0, .slice none 0 0, .int .u8 0, .int .i64 0, .int .i64 0, .string ByteArray.empty, .bool false, .slice none 0 0] 47 := by
    have := (Blk.new (w.alloc (.cells #[.int .i64 r.id, .slice A r.names.length c, .int .u8 r.suf, .int .i64 r.lo, .int .i64 r.hi, .string r.num, .bool r.twin, .slice D r.stays.length d] 47)) #[.int .i64 0, .slice none 0 0, .int .u8 0, .int .i64 0, .int .i64 0, .string ByteArray.empty, .bool false, .slice none 0 0] 47).alloc (.cells #[] 9)
    rw [World.size_alloc] at this
    exact this.below hb1 (by omega)
  have hbc1 := B1.cell
  have hbf1 := B1.free
  have Hown1 := Lib.hid hown1
  have Hg1 := Lib.hid hg1
  have Hat1 := Lib.hid hat1
  clear hown1 hg1 hat1 hown0
  go_wp2_with (at_builtin; refine wpList_append_src _ rfl (.tmp 8) (.tmp 10) 45 rfl (w.heap.size + 2) 75 j0 _ 3 24 Tryz.underlying45 ki kz0 kz1 kz2 rfl (by decide) (.slice (some ⟨w1.heap.size, 0, none⟩) 0 0) 0 [] rfl ?b1 D r.stays.length d (stayCells r.stays) rfl ?b2 ?b3 ?b4 ?b5 ?b6 ?b7 ?b8 ?_)
  case b1 => simpa using World.ownsRow_made (base := w.heap.size + 2) (e := 75) (size := 3) (w1.setCell ⟨w.heap.size, 1, none⟩ (.slice A1 r.names.length c1)) #[] 0 (by simp; omega) (by simp [maxLen]) (by simp)
  case b2 => exact stayCells_length _
  case b3 => rintro rfl; exact hsy0.none_
  case b4 => exact (hsy0.below ((hbw1.setCell (p := ⟨w.heap.size, 1, none⟩) (Nat.le_refl _) _).alloc (by simp; omega) _)).news
  case b5 => exact stayCells_one _
  case b6 => unfold maxLen; omega
  case b7 => omega
  case b8 => simp; omega
  intro v2 w2 hown2 hg2 hat2
  obtain ⟨D1, d1, rfl⟩ := own_slice hown2
  have hb2 : Below (w.heap.size + 2) ((w1.setCell ⟨w.heap.size, 1, none⟩ (.slice A1 r.names.length c1)).alloc (.cells #[] 75)) w2 :=
    (Below.refl _ _).grown hg2 (by simp; omega) (by intro k hk; simp [Value.ownBlock] at hk; omega)
  have hz4 := hb2.size
  simp only [World.size_alloc, World.size_setCell] at hz4
  have hz5 : w.heap.size < w2.heap.size := by omega
  have hz6 : w.heap.size + 1 < w2.heap.size := by omega
  have B2 : Blk w2 w.heap.size #[.int .i64 r.id, .slice A1 r.names.length c1, .int .u8 r.suf, .int .i64 r.lo, .int .i64 r.hi, .string r.num, .bool r.twin, .slice D r.stays.length d] 47 := ((B1.set 1 _).alloc _).below hb2 (by omega)
  have R2 : Blk w2 (w.heap.size + 1) #[.int .i64 0, .slice none 0 0, .int .u8 0, .int .i64 0, .int .i64 0, .string ByteArray.empty, .bool false, .slice none 0 0] 47 := ((R1.far (p := ⟨w.heap.size, 1, none⟩) (by simp) _).alloc _).below hb2 (by omega)
  clear hbc1 hbf1
  have hbc2 := B2.cell
  have hbf2 := B2.free
  have hrc2 := R2.cell
  have hrf2 := R2.free
  have hc2s := ((B2.set 7 (.slice D1 r.stays.length d1)).cell 7)
  have Hown2 := Lib.hid hown2
  have Hg2 := Lib.hid hg2
  have Hat2 := Lib.hid hat2
  clear hown2 hg2 hat2
  go_wp2_with fail
  have R3 := (((((((((R2.far (p := ⟨w.heap.size, 7, none⟩) (by simp) (.slice D1 r.stays.length d1)).set 0 (.int .i64 r.id)).set 1 (.slice A1 r.names.length c1)).set 2 (.int .u8 r.suf)).set 3 (.int .i64 r.lo)).set 4 (.int .i64 r.hi)).set 5 (.string r.num)).set 6 (.bool r.twin)).set 7 (.slice D1 r.stays.length d1))
  have hrc3 := R3.cell
  refine bodyPost_ret (v := .agg #[.int .i64 r.id, .slice A1 r.names.length c1, .int .u8 r.suf, .int .i64 r.lo, .int .i64 r.hi, .string r.num, .bool r.twin, .slice D1 r.stays.length d1]) ?hres rfl ?hpost
  case hres => simp [results, Tryz.results24, go_sem, hrc3]
  case hpost =>
    have hbw2 : Below w.heap.size w w2 := ((hbw1.setCell (p := ⟨w.heap.size, 1, none⟩) (Nat.le_refl _) _).alloc (by simp; omega) _).trans (hb2.mono (by omega))
    have hfin := ((((((((hbw2.setCell (p := ⟨w.heap.size, 7, none⟩) (Nat.le_refl _) (.slice D1 r.stays.length d1)).setCell (p := ⟨w.heap.size + 1, 0, none⟩) (by simp) (.int .i64 r.id)).setCell (p := ⟨w.heap.size + 1, 1, none⟩) (by simp) (.slice A1 r.names.length c1)).setCell (p := ⟨w.heap.size + 1, 2, none⟩) (by simp) (.int .u8 r.suf)).setCell (p := ⟨w.heap.size + 1, 3, none⟩) (by simp) (.int .i64 r.lo)).setCell (p := ⟨w.heap.size + 1, 4, none⟩) (by simp) (.int .i64 r.hi)).setCell (p := ⟨w.heap.size + 1, 5, none⟩) (by simp) (.string r.num)).setCell (p := ⟨w.heap.size + 1, 6, none⟩) (by simp) (.bool r.twin)).setCell (p := ⟨w.heap.size + 1, 7, none⟩) (by simp) (.slice D1 r.stays.length d1)
    have hcap : r.names.length ≤ c1 := by
      rcases Hown1.out.2 with ⟨_, h0⟩ | ⟨g, cap, cur, hv, _, _, hn1, _⟩
      · omega
      · simp only [Value.slice.injEq] at hv; omega
    refine ⟨A1, c1, D1, d1, rfl, ?_, ?_, hfin, hcap⟩
    · have g1 := ((ownsRow_setCell_below Hown1.out (a := ⟨w.heap.size, 1, none⟩) (by show w.heap.size < _; omega) (.slice A1 r.names.length c1)).alloc (.cells #[] 75)).kept Hg2.out (by
        have hl := Hown1.out.lt
        cases A1 with
        | none => left; rfl
        | some ad => right; have := (hl ad.block rfl).2; simp [Value.ownBlock]; omega)
      exact own_lower (ownsRow_nine g1 (by show w.heap.size < _; omega) (by show w.heap.size + 1 < _; omega)) (by omega)
    · exact own_lower (ownsRow_nine Hown2.out (by show w.heap.size < _; omega) (by show w.heap.size + 1 < _; omega)) (by omega)

theorem twin_in (A D : Option Addr) (c d : Nat) (r : Rec) (w : World) (h : RecAt w w.heap.size A D r) (hn : r.names.length ≤ 1000) (hs : r.stays.length ≤ 1000) :
    Calls Tryz.prog 24 #[.agg #[.int .i64 r.id, .slice A r.names.length c, .int .u8 r.suf, .int .i64 r.lo, .int .i64 r.hi, .string r.num, .bool r.twin, .slice D r.stays.length d]] w fun e w' => ∃ A' c' D' d', e = .returned (.agg #[.int .i64 r.id, .slice A' r.names.length c', .int .u8 r.suf, .int .i64 r.lo, .int .i64 r.hi, .string r.num, .bool r.twin, .slice D' r.stays.length d']) ∧ RecIn w' w.heap.size w'.heap.size A' D' r ∧ Below w.heap.size w w' ∧ r.names.length ≤ c' := by
  refine (twin_own A D c d r w h hn hs).mono ?_
  rintro e w' ⟨A1, c1, D1, d1, he, o1, o2, hb, hc⟩
  exact ⟨A1, c1, D1, d1, he, ⟨strsIn_of_own (Nat.le_refl _) o1 (fun s hs => by
    obtain ⟨k, hk, rfl⟩ := List.getElem_of_mem hs
    obtain ⟨_, _, _, _, _, g⟩ := h.strs k hk
    exact g), staysIn_of_own (Nat.le_refl _) o2, h.names_le, h.stays_le, h.num_le⟩, hb, hc⟩

end Go.Proofs.YtbkmfomdhjhkpaaGreat
