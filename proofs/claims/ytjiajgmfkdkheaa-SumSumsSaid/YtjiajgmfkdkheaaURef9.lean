/- Tables and questions in new memory, by the reference. Written by r9.py. -/
import Derived.Test.YtjiajgmfkdkheaaURef7
import Derived.Test.YtjiajgmfkdkheaaUTab
import Derived.Test.YtjiajgmfkdkheaaSFlp

namespace Go.Proofs.Ytjiajgmfkdkheaa
open Go.RowKit Go.Maps

theorem queInfo : (Try.prog.info? 25).map (fun i => (i.zero, i.size, i.bytes)) = some (some (.agg #[.slice none 0 0, .int .i64 0, .int .i64 0, .int .i64 0]), 4, 48) := by kernel_rfl
theorem wheInfo : (Try.prog.info? 62).map (fun i => (i.zero, i.size, i.bytes)) = some (some (.agg #[.int .i64 0, .int .i64 0, .int .i64 0]), 3, 24) := by kernel_rfl
theorem flat_nil {α : Type} {n : Nat} {f : α → List Value} {w : World} {B : Nat} {A : Option Addr} {l : List α} (h : Flat n f w B A l) : A = none → l.length = 0 := fun e => by subst e; exact h.none_
theorem queC_one (x : QueD) : ∀ u ∈ queC x, u.oneCell' = true := fun u hu => by
  simp only [queC, List.mem_cons, List.not_mem_nil, or_false] at hu
  rcases hu with rfl | rfl | rfl | rfl <;> rfl
theorem wheC_one (x : Whe) : ∀ u ∈ wheC x, u.oneCell' = true := fun u hu => by
  simp only [wheC, List.mem_cons, List.not_mem_nil, or_false] at hu
  rcases hu with rfl | rfl | rfl <;> rfl

/-- A table in new memory. -/
def TwinTab (w : World) (l : List SubD) (e : Ending) (w' : World) : Prop := ∃ A' c' tl, e = .returned (.slice A' l.length c') ∧ Hid (List.map SubD.v tl = l.map SubD.v ∧ SubsAt w' w'.heap.size A' tl) ∧ Below w.heap.size w w'
def InvtwinS (w : World) (l : List SubD) (A1 : Option Addr) (c1 : Nat) (wr : World) : Prop := ∃ tl : List SubD, List.map SubD.v tl = l.map SubD.v ∧ wr.ownsRow w.heap.size 47 2 (.slice A1 l.length c1) l.length (tl.flatMap subC) ∧ (∀ x ∈ tl, FlatP 1 intC wr (fun b => (Value.slice A1 l.length c1).ownBlock ≠ some b) x.V x.v.vals) ∧ Below w.heap.size w wr
theorem invtwinS_put {w wr w2 : World} {l : List SubD} {g c1 : Nat} {tl : List SubD} {i : Nat} (hm : List.map SubD.v tl = l.map SubD.v) (hi : i < tl.length) (ho : wr.ownsRow w.heap.size 47 2 (.slice (some ⟨g, 0, none⟩) l.length c1) l.length (tl.flatMap subC))
    (he : ∀ x ∈ tl, FlatP 1 intC wr (fun b => (Value.slice (some ⟨g, 0, none⟩) l.length c1).ownBlock ≠ some b) x.V x.v.vals) (hB : Below w.heap.size w wr) (hg : wr.grownBy w2 none) {A3 : Option Addr} {c3 : Nat} {n3 : Nat} (hn3 : n3 = tl[i].v.vals.length) (hown : w2.ownsRow wr.heap.size 3 1 (.slice A3 n3 c3) n3 (tl[i].v.vals.flatMap intC)) :
    InvtwinS w l (some ⟨g, 0, none⟩) c1 (w2.setCell ⟨g, i * 2 + 1, none⟩ (.slice A3 n3 c3)) := by
  subst hn3
  have hgl := ho.lt g rfl
  have hlen : tl.length = l.length := by have := congrArg List.length hm; simpa using this
  have hF : Fr (fun b => (Value.slice (some ⟨g, 0, none⟩) l.length c1).ownBlock ≠ some b) wr (w2.setCell ⟨g, i * 2 + 1, none⟩ (.slice A3 tl[i].v.vals.length c3)) := (Fr.grown hg (fun _ _ => by simp)).trans (Fr.set (p := ⟨g, i * 2 + 1, none⟩) (fun e => e rfl) _)
  refine ⟨tl.set i ⟨(tl[i]).v, A3, c3⟩, ?_, ?_, fun x hx => ?_, ?_⟩
  · rw [List.map_set]
    have h1 : (⟨(tl[i]).v, A3, c3⟩ : SubD).v = (List.map SubD.v tl)[i]'(by rw [List.length_map]; exact hi) := by rw [List.getElem_map]
    rw [h1, List.set_getElem_self]
    exact hm
  · have h1 := ((ho.kept hg (.inr (by simp [Value.ownBlock]))).stored (i * 2 + 1) (.slice A3 tl[i].v.vals.length c3)).1
    rw [flat_set subC_len tl i hi ⟨(tl[i]).v, A3, c3⟩ 1 (.slice A3 tl[i].v.vals.length c3) (by decide) rfl]
    exact h1
  · rcases List.mem_or_eq_of_mem_set hx with h1 | h1
    · exact (he x h1).move hF
    · subst h1
      exact (FlatP.of_own intC_len (by decide) hown (fun b h1 _ _ e => by simp [Value.ownBlock] at e; omega)).move (Fr.set (p := ⟨g, i * 2 + 1, none⟩) (fun e => e rfl) _)
  · exact (hB.grown hg hB.size (fun k e => by cases e)).setCell (by show w.heap.size ≤ g; exact hgl.1) _
set_option maxRecDepth 100000 in
set_option maxHeartbeats 4000000 in
theorem twinS_any (l : List SubD) (A : Option Addr) (c : Nat) (w : World) (h : SubsAt w w.heap.size A l) (hl : l.length ≤ 1000) (hil : ∀ x ∈ l, x.v.vals.length ≤ 1000) :
    Calls Try.prog 5 #[.slice A l.length c] w (TwinTab w l) := by
  obtain ⟨i0, hi, hz0, hz1, hz2⟩ := info_parts subInfo
  obtain ⟨j0, hj, jz0, jz1, jz2⟩ := info_parts intInfo
  have hown0 := own_empty w 47 2 w.heap.size (Nat.le_refl _)
  have h0 := h.later ((Below.refl _ _).alloc (Nat.le_refl _) (.cells #[] 47))
  go_enter Try.func5, Try.ntmps5
  go_wp2_with (at_builtin; refine wpList_append_src _ rfl (.tmp 5) (.tmp 6) 22 rfl w.heap.size 47 i0 _ 2 32 Try.underlying22 hi hz0 hz1 hz2 rfl (by decide) _ 0 [] rfl ?a1 A l.length c (l.flatMap subC) rfl ?a2 ?a3 ?a4 ?a5 ?a6 ?a7 ?a8 ?_)
  case a1 => exact hown0
  case a2 => exact flat_len subC_len l
  case a3 => rintro rfl; exact h.row.none_
  case a4 => exact h0.row.news subC_len (by decide)
  case a5 => exact flat_ones subC_one l
  case a6 => unfold maxLen; omega
  case a7 => omega
  case a8 => simp
  intro v1 w1 hown1 hg1 _
  obtain ⟨A1, c1, rfl⟩ := own_slice hown1
  have hb1 : Below w.heap.size w w1 := ((Below.refl _ _).alloc (Nat.le_refl _) _).grown hg1 (by simp) (by intro k hk; simp [Value.ownBlock] at hk; omega)
  have HW : Hid (InvtwinS w l A1 c1 w1) := Lib.hid ⟨l, rfl, by simpa using hown1, fun x hx => FlatP.of_flat ((h.each x hx).below hb1) hb1.size (fun b hb e => by have := (hown1.lt b (by first | exact e | (rw [Nat.zero_add]; exact e))).1; omega), hb1⟩
  have HIl : Hid (∀ tl : List SubD, List.map SubD.v tl = l.map SubD.v → ∀ x ∈ tl, x.v.vals.length ≤ 1000) := Lib.hid (fun tl e x hx => by
    have h1 : x.v ∈ l.map SubD.v := by rw [← e]; exact List.mem_map_of_mem hx
    obtain ⟨y, hy, e2⟩ := List.mem_map.1 h1
    rw [← e2]; exact hil y hy)
  clear hown1 hg1 hown0 h0 hb1 h hil
  go_wp2_with fail
  go_loopw [4] (fun ii wr => ∃ i : Nat, i ≤ l.length ∧ ii = .int .i64 i ∧ Hid (InvtwinS w l A1 c1 wr)) (fun ii _ => l.length - (vInt ii).toNat)
  case atStart => exact ⟨0, Nat.zero_le _, by first | rfl | go_num, HW⟩
  case round =>
    obtain ⟨i, hi2, rfl, hT⟩ := hrel
    clear HW
    by_cases hlt : i < l.length
    · have hil2 : (i : Int) < (l.length : Int) := by omega
      obtain ⟨tl, hm, ho, he, hB⟩ := hT.out
      have hlen : tl.length = l.length := by have := congrArg List.length hm; simpa using this
      have hlt2 : i < tl.length := by omega
      obtain ⟨g, cap, hv, hgb, hglt⟩ := ho.form (by omega)
      simp only [Value.slice.injEq, true_and] at hv
      obtain ⟨rfl, rfl⟩ := hv
      have ha : wr.cell? ⟨g, i * 2 + 1, none⟩ = some (.slice tl[i].V tl[i].v.vals.length tl[i].c) := (ho.cellAt (i * 2 + 1) (by omega)).trans (flat_get subC_len tl i hlt2 1 (by decide))
      have HP := Lib.hid (fun (w2 : World) (hg : wr.grownBy w2 none) A3 c3 n3 hn3 hown => invtwinS_put (A3 := A3) (c3 := c3) (n3 := n3) hm hlt2 ho he hB hg hn3 hown)
      have HOk := Lib.hid (fun (w2 : World) (hg : wr.grownBy w2 none) => (ho.kept hg (.inr (by simp [Value.ownBlock]))))
      have hxl := HIl.out tl hm _ (List.getElem_mem hlt2)
      have HFx := Lib.hid ((he _ (List.getElem_mem hlt2)))
      have HL16 := flat_len subC_len tl
      have HL := Lib.hid HL16
      have HLn := Lib.hid hlen
      have hown2 := Lib.hid (own_empty wr 3 1 wr.heap.size (Nat.le_refl _))
      clear hm ho he hT HL16 hlen
      generalize hxx : tl[i] = x at *
      have HX := Lib.hid hxx
      clear hxx
      go_wp2_with (at_builtin; refine wpList_append_src _ rfl (.tmp 16) (.tmp 21) 30 rfl wr.heap.size 3 j0 _ 1 8 Try.underlying30 hj jz0 jz1 jz2 rfl (by decide) _ 0 [] rfl hown2.out x.V x.v.vals.length x.c (x.v.vals.flatMap intC) rfl ?b1 ?b2 ?b3 ?b4 ?b5 ?b6 ?b7 ?_)
      case b1 => exact flat_len intC_len _
      case b2 => exact flat_nil HFx.out.flat
      case b3 => exact Flat.news intC_len (by decide) (HFx.out.flat.later ((Below.refl _ _).alloc (Nat.le_refl _) _))
      case b4 => exact flat_ones intC_one _
      case b5 => unfold maxLen; omega
      case b6 => omega
      case b7 => simp
      intro v' w3 hown3 hg3 _
      obtain ⟨A3, c3, rfl⟩ := own_slice hown3
      have hgn : wr.grownBy w3 none := (World.grownBy_alloc wr _ none).andThen hg3 (fun j e => by simp [Value.ownBlock] at e; omega)
      have hok := HOk.out w3 hgn
      have hf3 := hok.frozenAt (i * 2 + 1)
      have hL := HL.out
      have hLn := HLn.out
      have hc3 : w3.cell? ⟨g, i * 2 + 1, none⟩ = some (.slice x.V x.v.vals.length x.c) := (hok.cellAt (i * 2 + 1) (by omega)).trans ((flat_get subC_len tl i hlt2 1 (by decide)).trans (by rw [HX.out]; rfl))
      have HPut := Lib.hid (HP.out w3 hgn A3 c3 _ rfl hown3)
      clear hL hLn hown3 hok HP HOk hg3 hgn
      go_wp2_with fail
      go_roundw
      case rel => exact ⟨i + 1, by omega, by go_num, Lib.hid HPut.out⟩
      case measure => simp [vInt]; omega
    · have hil2 : ¬ (i : Int) < (l.length : Int) := by omega
      go_wp2_with fail
      go_ret
      obtain ⟨tl, hm, ho, he, hB⟩ := hT.out
      have hlen : tl.length = l.length := by have := congrArg List.length hm; simpa using this
      exact ⟨A1, c1, tl, rfl, Lib.hid ⟨hm, ⟨Flat.of_own (c := c1) subC_len (by decide) (by rw [hlen]; exact ho), fun x hx => (he x hx).flat⟩⟩, hB⟩

/-- Questions in new memory. -/
def TwinQue (w : World) (l : List QueD) (e : Ending) (w' : World) : Prop := ∃ A' c' tl, e = .returned (.slice A' l.length c') ∧ Hid (List.map QueD.v tl = l.map QueD.v ∧ QuesAt w' w'.heap.size A' tl) ∧ Below w.heap.size w w'
def InvtwinQ (w : World) (l : List QueD) (A1 : Option Addr) (c1 : Nat) (wr : World) : Prop := ∃ tl : List QueD, List.map QueD.v tl = l.map QueD.v ∧ wr.ownsRow w.heap.size 25 4 (.slice A1 l.length c1) l.length (tl.flatMap queC) ∧ (∀ x ∈ tl, FlatP 3 wheC wr (fun b => (Value.slice A1 l.length c1).ownBlock ≠ some b) x.W x.v.wheres) ∧ Below w.heap.size w wr
theorem invtwinQ_put {w wr w2 : World} {l : List QueD} {g c1 : Nat} {tl : List QueD} {i : Nat} (hm : List.map QueD.v tl = l.map QueD.v) (hi : i < tl.length) (ho : wr.ownsRow w.heap.size 25 4 (.slice (some ⟨g, 0, none⟩) l.length c1) l.length (tl.flatMap queC))
    (he : ∀ x ∈ tl, FlatP 3 wheC wr (fun b => (Value.slice (some ⟨g, 0, none⟩) l.length c1).ownBlock ≠ some b) x.W x.v.wheres) (hB : Below w.heap.size w wr) (hg : wr.grownBy w2 none) {A3 : Option Addr} {c3 : Nat} {n3 : Nat} (hn3 : n3 = tl[i].v.wheres.length) (hown : w2.ownsRow wr.heap.size 62 3 (.slice A3 n3 c3) n3 (tl[i].v.wheres.flatMap wheC)) :
    InvtwinQ w l (some ⟨g, 0, none⟩) c1 (w2.setCell ⟨g, i * 4 + 0, none⟩ (.slice A3 n3 c3)) := by
  subst hn3
  have hgl := ho.lt g rfl
  have hlen : tl.length = l.length := by have := congrArg List.length hm; simpa using this
  have hF : Fr (fun b => (Value.slice (some ⟨g, 0, none⟩) l.length c1).ownBlock ≠ some b) wr (w2.setCell ⟨g, i * 4 + 0, none⟩ (.slice A3 tl[i].v.wheres.length c3)) := (Fr.grown hg (fun _ _ => by simp)).trans (Fr.set (p := ⟨g, i * 4 + 0, none⟩) (fun e => e rfl) _)
  refine ⟨tl.set i ⟨(tl[i]).v, A3, c3⟩, ?_, ?_, fun x hx => ?_, ?_⟩
  · rw [List.map_set]
    have h1 : (⟨(tl[i]).v, A3, c3⟩ : QueD).v = (List.map QueD.v tl)[i]'(by rw [List.length_map]; exact hi) := by rw [List.getElem_map]
    rw [h1, List.set_getElem_self]
    exact hm
  · have h1 := ((ho.kept hg (.inr (by simp [Value.ownBlock]))).stored (i * 4 + 0) (.slice A3 tl[i].v.wheres.length c3)).1
    rw [flat_set queC_len tl i hi ⟨(tl[i]).v, A3, c3⟩ 0 (.slice A3 tl[i].v.wheres.length c3) (by decide) rfl]
    exact h1
  · rcases List.mem_or_eq_of_mem_set hx with h1 | h1
    · exact (he x h1).move hF
    · subst h1
      exact (FlatP.of_own wheC_len (by decide) hown (fun b h1 _ _ e => by simp [Value.ownBlock] at e; omega)).move (Fr.set (p := ⟨g, i * 4 + 0, none⟩) (fun e => e rfl) _)
  · exact (hB.grown hg hB.size (fun k e => by cases e)).setCell (by show w.heap.size ≤ g; exact hgl.1) _
set_option maxRecDepth 100000 in
set_option maxHeartbeats 4000000 in
theorem twinQ_any (l : List QueD) (A : Option Addr) (c : Nat) (w : World) (h : QuesAt w w.heap.size A l) (hl : l.length ≤ 1000) (hil : ∀ x ∈ l, x.v.wheres.length ≤ 1000) :
    Calls Try.prog 6 #[.slice A l.length c] w (TwinQue w l) := by
  obtain ⟨i0, hi, hz0, hz1, hz2⟩ := info_parts queInfo
  obtain ⟨j0, hj, jz0, jz1, jz2⟩ := info_parts wheInfo
  have hown0 := own_empty w 25 4 w.heap.size (Nat.le_refl _)
  have h0 := h.later ((Below.refl _ _).alloc (Nat.le_refl _) (.cells #[] 25))
  go_enter Try.func6, Try.ntmps6
  go_wp2_with (at_builtin; refine wpList_append_src _ rfl (.tmp 5) (.tmp 6) 27 rfl w.heap.size 25 i0 _ 4 48 Try.underlying27 hi hz0 hz1 hz2 rfl (by decide) _ 0 [] rfl ?a1 A l.length c (l.flatMap queC) rfl ?a2 ?a3 ?a4 ?a5 ?a6 ?a7 ?a8 ?_)
  case a1 => exact hown0
  case a2 => exact flat_len queC_len l
  case a3 => rintro rfl; exact h.row.none_
  case a4 => exact h0.row.news queC_len (by decide)
  case a5 => exact flat_ones queC_one l
  case a6 => unfold maxLen; omega
  case a7 => omega
  case a8 => simp
  intro v1 w1 hown1 hg1 _
  obtain ⟨A1, c1, rfl⟩ := own_slice hown1
  have hb1 : Below w.heap.size w w1 := ((Below.refl _ _).alloc (Nat.le_refl _) _).grown hg1 (by simp) (by intro k hk; simp [Value.ownBlock] at hk; omega)
  have HW : Hid (InvtwinQ w l A1 c1 w1) := Lib.hid ⟨l, rfl, by simpa using hown1, fun x hx => FlatP.of_flat ((h.each x hx).below hb1) hb1.size (fun b hb e => by have := (hown1.lt b (by first | exact e | (rw [Nat.zero_add]; exact e))).1; omega), hb1⟩
  have HIl : Hid (∀ tl : List QueD, List.map QueD.v tl = l.map QueD.v → ∀ x ∈ tl, x.v.wheres.length ≤ 1000) := Lib.hid (fun tl e x hx => by
    have h1 : x.v ∈ l.map QueD.v := by rw [← e]; exact List.mem_map_of_mem hx
    obtain ⟨y, hy, e2⟩ := List.mem_map.1 h1
    rw [← e2]; exact hil y hy)
  clear hown1 hg1 hown0 h0 hb1 h hil
  go_wp2_with fail
  go_loopw [4] (fun ii wr => ∃ i : Nat, i ≤ l.length ∧ ii = .int .i64 i ∧ Hid (InvtwinQ w l A1 c1 wr)) (fun ii _ => l.length - (vInt ii).toNat)
  case atStart => exact ⟨0, Nat.zero_le _, by first | rfl | go_num, HW⟩
  case round =>
    obtain ⟨i, hi2, rfl, hT⟩ := hrel
    clear HW
    by_cases hlt : i < l.length
    · have hil2 : (i : Int) < (l.length : Int) := by omega
      obtain ⟨tl, hm, ho, he, hB⟩ := hT.out
      have hlen : tl.length = l.length := by have := congrArg List.length hm; simpa using this
      have hlt2 : i < tl.length := by omega
      obtain ⟨g, cap, hv, hgb, hglt⟩ := ho.form (by omega)
      simp only [Value.slice.injEq, true_and] at hv
      obtain ⟨rfl, rfl⟩ := hv
      have ha : wr.cell? ⟨g, i * 4, none⟩ = some (.slice tl[i].W tl[i].v.wheres.length tl[i].c) := (ho.cellAt (i * 4 + 0) (by omega)).trans (flat_get queC_len tl i hlt2 0 (by decide))
      have HP := Lib.hid (fun (w2 : World) (hg : wr.grownBy w2 none) A3 c3 n3 hn3 hown => invtwinQ_put (A3 := A3) (c3 := c3) (n3 := n3) hm hlt2 ho he hB hg hn3 hown)
      have HOk := Lib.hid (fun (w2 : World) (hg : wr.grownBy w2 none) => (ho.kept hg (.inr (by simp [Value.ownBlock]))))
      have hxl := HIl.out tl hm _ (List.getElem_mem hlt2)
      have HFx := Lib.hid ((he _ (List.getElem_mem hlt2)))
      have HL16 := flat_len queC_len tl
      have HL := Lib.hid HL16
      have HLn := Lib.hid hlen
      have hown2 := Lib.hid (own_empty wr 62 3 wr.heap.size (Nat.le_refl _))
      clear hm ho he hT HL16 hlen
      generalize hxx : tl[i] = x at *
      have HX := Lib.hid hxx
      clear hxx
      go_wp2_with (at_builtin; refine wpList_append_src _ rfl (.tmp 16) (.tmp 21) 23 rfl wr.heap.size 62 j0 _ 3 24 Try.underlying23 hj jz0 jz1 jz2 rfl (by decide) _ 0 [] rfl hown2.out x.W x.v.wheres.length x.c (x.v.wheres.flatMap wheC) rfl ?b1 ?b2 ?b3 ?b4 ?b5 ?b6 ?b7 ?_)
      case b1 => exact flat_len wheC_len _
      case b2 => exact flat_nil HFx.out.flat
      case b3 => exact Flat.news wheC_len (by decide) (HFx.out.flat.later ((Below.refl _ _).alloc (Nat.le_refl _) _))
      case b4 => exact flat_ones wheC_one _
      case b5 => unfold maxLen; omega
      case b6 => omega
      case b7 => simp
      intro v' w3 hown3 hg3 _
      obtain ⟨A3, c3, rfl⟩ := own_slice hown3
      have hgn : wr.grownBy w3 none := (World.grownBy_alloc wr _ none).andThen hg3 (fun j e => by simp [Value.ownBlock] at e; omega)
      have hok := HOk.out w3 hgn
      have hf3 := hok.frozenAt (i * 4)
      have hL := HL.out
      have hLn := HLn.out
      have hc3 : w3.cell? ⟨g, i * 4, none⟩ = some (.slice x.W x.v.wheres.length x.c) := (hok.cellAt (i * 4 + 0) (by omega)).trans ((flat_get queC_len tl i hlt2 0 (by decide)).trans (by rw [HX.out]; rfl))
      have HPut := Lib.hid (HP.out w3 hgn A3 c3 _ rfl hown3)
      clear hL hLn hown3 hok HP HOk hg3 hgn
      go_wp2_with fail
      go_roundw
      case rel => exact ⟨i + 1, by omega, by go_num, Lib.hid HPut.out⟩
      case measure => simp [vInt]; omega
    · have hil2 : ¬ (i : Int) < (l.length : Int) := by omega
      go_wp2_with fail
      go_ret
      obtain ⟨tl, hm, ho, he, hB⟩ := hT.out
      have hlen : tl.length = l.length := by have := congrArg List.length hm; simpa using this
      exact ⟨A1, c1, tl, rfl, Lib.hid ⟨hm, ⟨Flat.of_own (c := c1) queC_len (by decide) (by rw [hlen]; exact ho), fun x hx => (he x hx).flat⟩⟩, hB⟩
end Go.Proofs.Ytjiajgmfkdkheaa
