/- Whether questions are an audit, by the reference. -/
import Derived.Test.YtbkekdbabkncfaaGreatURef6
import Derived.Test.YtbkekdbabkncfaaGreatURef5
import Derived.Test.YtbkekdbabkncfaaGreatW5
import Derived.Test.YtbkekdbabkncfaaGreatURef7
import Derived.Test.YtbkekdbabkncfaaGreatD2
import Derived.Test.YtbkekdbabkncfaaGreatD1
import Derived.Deep.RegionLawGrows
import Derived.Laws.StructEq
import Derived.Test.YtbkekdbabkncfaaGreatURef4

namespace Go.Proofs.YtbkekdbabkncfaaGreat
open Go.RowKit Go.Maps

set_option maxRecDepth 100000 in
set_option maxHeartbeats 8000000 in
theorem audit10_any (columns : Int) (q : List QueD) (Q : Option Addr) (qc : Nat) (w : World) (hq : QuesAt w w.heap.size Q q) (hn : q.length ≤ 100) (hw : ∀ x ∈ q, x.v.wheres.length ≤ 10) (hc : -1000 ≤ columns ∧ columns ≤ 1000) :
    Calls Tryz.prog 60 #[.int .i64 columns, .slice Q q.length qc] w fun e w' => e = .returned (.bool (avlB columns q)) ∧ Below w.heap.size w w' := by
  have HF : Hid (∀ i, (h : i < q.length) → fitB columns (q0L q) q[i].v = false → avlB columns q = false) := Lib.hid (fun i h h1 => by
    unfold avlB
    have : (q.all fun x : QueD => fitB columns (q0L q) x.v) = false := by
      rw [List.all_eq_false]
      exact ⟨_, List.getElem_mem h, by rw [h1]; decide⟩
    rw [this, Bool.and_false])
  have HG : Hid (q.length ≤ 8 → (∀ i, (h : i < q.length) → fitB columns (q0L q) q[i].v = true) → avlB columns q = true) := Lib.hid (fun h1 h2 => by
    unfold avlB
    rw [decide_eq_true h1, Bool.true_and, List.all_eq_true]
    intro x hx
    obtain ⟨i, hi, rfl⟩ := List.mem_iff_getElem.1 hx
    exact h2 i hi)
  have hT : 8 < q.length → avlB columns q = false := fun h => by unfold avlB; rw [decide_eq_false (by omega)]; rfl
  generalize avlB columns q = R at *
  by_cases q1 : 8 < q.length
  · have HR := Lib.hid (hT q1)
    have q1' : (8 : Int) < (q.length : Int) := by omega
    clear hq hT
    go_enter Tryz.func60, Tryz.ntmps60
    go_wp2_with fail
    go_ret
    exact ⟨by rw [HR.out]; rfl, Below.refl _ _⟩
  have q1' : ¬ (8 : Int) < (q.length : Int) := by omega
  have HQ := Lib.hid hq
  have HW := Lib.hid hw
  clear hq hT hw
  go_enter Tryz.func60, Tryz.ntmps60
  go_wp2_with fail
  go_loopw [5] (fun ii wr => ∃ i : Nat, i ≤ q.length ∧ ii = .int .i64 i ∧ Hid ((∀ j, (h : j < q.length) → j < i → fitB columns (q0L q) q[j].v = true) ∧ Below w.heap.size w wr)) (fun ii _ => q.length - (vInt ii).toNat)
  case atStart => exact ⟨0, Nat.zero_le _, rfl, Lib.hid ⟨fun j _ hj => by omega, Below.refl _ _⟩⟩
  case round =>
    obtain ⟨i, hi, rfl, hR⟩ := hrel
    obtain ⟨hJ, hB⟩ := hR.out
    clear hR
    by_cases hlt : i < q.length
    · have hil : (i : Int) < (q.length : Int) := by omega
      have h0 : 0 < q.length := by omega
      have h0I : (0 : Int) < (q.length : Int) := by omega
      obtain ⟨b, off, rfl, hbw, c0w, c1w, c2w, c3w, hv⟩ := ques_at HQ.out hlt
      obtain ⟨b', off', hA, hbw', _, d1w, d2w, _, _⟩ := ques_at HQ.out h0
      obtain ⟨rfl, rfl⟩ : b' = b ∧ off' = off := by simpa [eq_comm] using hA
      clear hA hbw'
      rw [Nat.zero_mul, Nat.add_zero] at d1w d2w
      have c0 := (hB.cell (p := ⟨b', off' + i * 4, none⟩) hbw).trans c0w
      have c1 := (hB.cell (p := ⟨b', off' + i * 4 + 1, none⟩) hbw).trans c1w
      have c2 := (hB.cell (p := ⟨b', off' + i * 4 + 2, none⟩) hbw).trans c2w
      have c3 := (hB.cell (p := ⟨b', off' + i * 4 + 3, none⟩) hbw).trans c3w
      have d1 := (hB.cell (p := ⟨b', off' + 1, none⟩) hbw).trans d1w
      have d2 := (hB.cell (p := ⟨b', off' + 2, none⟩) hbw).trans d2w
      have hb : b' < wr.heap.size := Nat.lt_of_lt_of_le hbw hB.size
      have a0 := After.cell (B := wr.heap.size) c0 hb
      have a1 := After.cell (B := wr.heap.size) c1 hb
      have a2 := After.cell (B := wr.heap.size) c2 hb
      have a3 := After.cell (B := wr.heap.size) c3 hb
      have a4 := After.cell (B := wr.heap.size) d1 hb
      have a5 := After.cell (B := wr.heap.size) d2 hb
      have HQu : Hid (∀ z : After wr.heap.size wr, Calls Tryz.prog 58 #[.int .i64 columns, .agg #[.slice q[i].W q[i].v.wheres.length q[i].c, .int .i64 q[i].v.col, .int .i64 q[i].v.clip, .int .i64 q[i].v.step]] z.val fun e w' => e = .returned (.bool (queB columns q[i].v)) ∧ Below z.val.heap.size z.val w') := Lib.hid (fun z => question10_any columns q[i].v.wheres q[i].v.col q[i].v.clip q[i].v.step q[i].W q[i].c z.val (hv.later (hB.trans (z.property.mono hB.size))) (by have := HW.out _ (List.getElem_mem hlt); omega) hc)
      have HFi := Lib.hid (HF.out i hlt)
      have HN : Hid (fitB columns (q0L q) q[i].v = true → ∀ j, (h : j < q.length) → j < i + 1 → fitB columns (q0L q) q[j].v = true) := Lib.hid (fun h8 j h hj => by
        rcases Nat.lt_or_ge j i with h9 | h9
        · exact hJ j h h9
        · obtain rfl : j = i := by omega
          exact h8)
      have hq0 : q0L q = q[0].v := by
        cases q with
        | nil => simp at h0
        | cons x r => rfl
      have hfit : fitB columns (q0L q) q[i].v = (queB columns q[i].v && decide (q[i].v.col = q[0].v.col ∧ q[i].v.clip = q[0].v.clip)) := by rw [hq0]; rfl
      rw [hfit] at HFi HN
      clear hJ c0w c1w c2w c3w d1w d2w hv hfit hq0
      generalize q[i].v.col = ci at *
      generalize q[i].v.clip = pi at *
      generalize q[0].v.col = c0' at *
      generalize q[0].v.clip = p0' at *
      generalize queB columns q[i].v = qb at *
      cases qb with
      | false =>
        have HR := Lib.hid (HFi.out (by simp))
        clear HFi HN
        go_upto_region 6 with fail
        refine wp_region_class_lit (C := fun w' => ∃ z : After wr.heap.size wr, w' = z.val) (by kernel_rfl) (by kernel_rfl) ⟨⟨_, (Below.refl _ _).drew⟩, rfl⟩ ?_
        repeat (go_big_quiet_step ((first
          | (go_at_call 58; with_reducible exact after_of (Nat.le_refl _) _ (HQu.out _)))))
        refine wpQuiet_nil ?_
        intro wz0 hw'
        obtain ⟨⟨wz, hz⟩, hw''⟩ := hw'
        dsimp only at hw''
        subst hw''
        clear a0 a1 a2 a3 a4 a5
        go_wp2_with fail
        go_ret
        exact ⟨by rw [HR.out]; rfl, hB.trans (hz.mono hB.size)⟩
      | true =>
        by_cases hx : ci = c0'
        · by_cases hy : pi = p0'
          · have HR := Lib.hid (HN.out (by simp [hx, hy]))
            clear HFi HN
            subst hx hy
            go_upto_region 6 with fail
            refine wp_region_class_lit (C := fun w' => ∃ z : After wr.heap.size wr, w' = z.val) (by kernel_rfl) (by kernel_rfl) ⟨⟨_, (Below.refl _ _).drew⟩, rfl⟩ ?_
            repeat (go_big_quiet_step ((first
              | (go_at_call 58; with_reducible exact after_of (Nat.le_refl _) _ (HQu.out _)))))
            refine wpQuiet_nil ?_
            intro wz0 hw'
            obtain ⟨⟨wz, hz⟩, hw''⟩ := hw'
            dsimp only at hw''
            subst hw''
            clear a0 a1 a2 a3 a4 a5
            go_wp2_with fail
            go_roundw
            case rel => exact ⟨i + 1, by omega, by go_num, Lib.hid ⟨HR.out, hB.trans (hz.mono hB.size)⟩⟩
            case measure => simp [vInt]; omega
          · have HR := Lib.hid (HFi.out (by simp [hy]))
            clear HFi HN
            subst hx
            go_upto_region 6 with fail
            refine wp_region_class_lit (C := fun w' => ∃ z : After wr.heap.size wr, w' = z.val) (by kernel_rfl) (by kernel_rfl) ⟨⟨_, (Below.refl _ _).drew⟩, rfl⟩ ?_
            repeat (go_big_quiet_step ((first
              | (go_at_call 58; with_reducible exact after_of (Nat.le_refl _) _ (HQu.out _)))))
            refine wpQuiet_nil ?_
            intro wz0 hw'
            obtain ⟨⟨wz, hz⟩, hw''⟩ := hw'
            dsimp only at hw''
            subst hw''
            clear a0 a1 a2 a3 a4 a5
            go_wp2_with fail
            go_ret
            exact ⟨by rw [HR.out]; rfl, hB.trans (hz.mono hB.size)⟩
        · have HR := Lib.hid (HFi.out (by simp [hx]))
          have hx2 : (ci != c0') = true := by simpa using hx
          clear HFi HN
          go_upto_region 6 with fail
          refine wp_region_class_lit (C := fun w' => ∃ z : After wr.heap.size wr, w' = z.val) (by kernel_rfl) (by kernel_rfl) ⟨⟨_, (Below.refl _ _).drew⟩, rfl⟩ ?_
          repeat (go_big_quiet_step ((first
            | (go_at_call 58; with_reducible exact after_of (Nat.le_refl _) _ (HQu.out _)))))
          refine wpQuiet_nil ?_
          intro wz0 hw'
          obtain ⟨⟨wz, hz⟩, hw''⟩ := hw'
          dsimp only at hw''
          subst hw''
          clear a0 a1 a2 a3 a4 a5
          go_wp2_with fail
          go_ret
          exact ⟨by rw [HR.out]; rfl, hB.trans (hz.mono hB.size)⟩
    · have hil : ¬ (i : Int) < (q.length : Int) := by omega
      have HR := Lib.hid (HG.out (by omega) (fun j h => hJ j h (by omega)))
      clear hJ
      go_wp2_with fail
      go_ret
      exact ⟨by rw [HR.out]; rfl, hB⟩
end Go.Proofs.YtbkekdbabkncfaaGreat

namespace Go.Proofs.YtbkekdbabkncfaaGreat
open Go.RowKit Go.Maps

theorem queInfo : (Tryz.prog.info? 25).map (fun i => (i.zero, i.size, i.bytes)) = some (some (.agg #[.slice none 0 0, .int .i64 0, .int .i64 0, .int .i64 0]), 4, 48) := by kernel_rfl
theorem wheInfo : (Tryz.prog.info? 68).map (fun i => (i.zero, i.size, i.bytes)) = some (some (.agg #[.int .i64 0, .int .i64 0, .int .i64 0]), 3, 24) := by kernel_rfl
theorem flat_nil {α : Type} {n : Nat} {f : α → List Value} {w : World} {B : Nat} {A : Option Addr} {l : List α} (h : Flat n f w B A l) : A = none → l.length = 0 := fun e => by subst e; exact h.none_
theorem queC_one (x : QueD) : ∀ u ∈ queC x, u.oneCell' = true := fun u hu => by
  simp only [queC, List.mem_cons, List.not_mem_nil, or_false] at hu
  rcases hu with rfl | rfl | rfl | rfl <;> rfl
theorem wheC_one (x : Whe) : ∀ u ∈ wheC x, u.oneCell' = true := fun u hu => by
  simp only [wheC, List.mem_cons, List.not_mem_nil, or_false] at hu
  rcases hu with rfl | rfl | rfl <;> rfl

/-- A table in new memory. -/
def TwinTab (w : World) (l : List SubD) (e : Ending) (w' : World) : Prop := ∃ A' c' tl, e = .returned (.slice A' l.length c') ∧ Hid (List.map SubD.v tl = l.map SubD.v ∧ SubsAt w' w'.heap.size A' tl) ∧ Below w.heap.size w w'
def InvtwinS (w : World) (l : List SubD) (A1 : Option Addr) (c1 : Nat) (wr : World) : Prop := ∃ tl : List SubD, List.map SubD.v tl = l.map SubD.v ∧ wr.ownsRow w.heap.size 56 2 (.slice A1 l.length c1) l.length (tl.flatMap subC) ∧ (∀ x ∈ tl, FlatP 1 intC wr (fun b => (Value.slice A1 l.length c1).ownBlock ≠ some b) x.V x.v.vals) ∧ Below w.heap.size w wr
theorem invtwinS_put {w wr w2 : World} {l : List SubD} {g c1 : Nat} {tl : List SubD} {i : Nat} (hm : List.map SubD.v tl = l.map SubD.v) (hi : i < tl.length) (ho : wr.ownsRow w.heap.size 56 2 (.slice (some ⟨g, 0, none⟩) l.length c1) l.length (tl.flatMap subC))
    (he : ∀ x ∈ tl, FlatP 1 intC wr (fun b => (Value.slice (some ⟨g, 0, none⟩) l.length c1).ownBlock ≠ some b) x.V x.v.vals) (hB : Below w.heap.size w wr) (hg : wr.grownBy w2 none) {A3 : Option Addr} {c3 : Nat} {n3 : Nat} (hn3 : n3 = tl[i].v.vals.length) (hown : w2.ownsRow wr.heap.size 3 1 (.slice A3 n3 c3) n3 (tl[i].v.vals.flatMap intC)) :
    InvtwinS w l (some ⟨g, 0, none⟩) c1 (w2.setCell ⟨g, i * 2 + 1, none⟩ (.slice A3 n3 c3)) := by
  subst hn3
  have hgl := ho.lt g rfl
  have hlen : tl.length = l.length := by have := congrArg List.length hm; simpa using this
  have hF : Fr (fun b => (Value.slice (some ⟨g, 0, none⟩) l.length c1).ownBlock ≠ some b) wr (w2.setCell ⟨g, i * 2 + 1, none⟩ (.slice A3 tl[i].v.vals.length c3)) := (Fr.grown hg (fun _ _ => by simp)).trans (Fr.set (p := ⟨g, i * 2 + 1, none⟩) (fun e => e rfl) _)
  refine ⟨tl.set i ⟨(tl[i]).v, A3, c3⟩, ?_, ?_, fun x hx => ?_, ?_⟩
  · rw [List.map_set]
    have h1 : (⟨(tl[i]).v, A3, c3⟩ : SubD).v = (List.map SubD.v tl)[i]'(by rw [List.length_map]; exact hi) := by rw [List.getElem_map]
    rw [h1, List.set_getElem_self]
    exact hm
  · have h1 := ((ho.kept hg (.inr (by simp [Value.ownBlock]))).stored (i * 2 + 1) (.slice A3 tl[i].v.vals.length c3)).1
    rw [flat_set subC_len tl i hi ⟨(tl[i]).v, A3, c3⟩ 1 (.slice A3 tl[i].v.vals.length c3) (by decide) rfl]
    exact h1
  · rcases List.mem_or_eq_of_mem_set hx with h1 | h1
    · exact (he x h1).move hF
    · subst h1
      exact (FlatP.of_own intC_len (by decide) hown (fun b h1 _ _ e => by simp [Value.ownBlock] at e; omega)).move (Fr.set (p := ⟨g, i * 2 + 1, none⟩) (fun e => e rfl) _)
  · exact (hB.grown hg hB.size (fun k e => by cases e)).setCell (by show w.heap.size ≤ g; exact hgl.1) _
set_option maxRecDepth 100000 in
set_option maxHeartbeats 4000000 in
theorem twinS_any (l : List SubD) (A : Option Addr) (c : Nat) (w : World) (h : SubsAt w w.heap.size A l) (hl : l.length ≤ 1000) (hil : ∀ x ∈ l, x.v.vals.length ≤ 1000) :
    Calls Tryz.prog 24 #[.slice A l.length c] w (TwinTab w l) := by
  obtain ⟨i0, hi, hz0, hz1, hz2⟩ := info_parts subInfo
  obtain ⟨j0, hj, jz0, jz1, jz2⟩ := info_parts intInfo
  have hown0 := own_empty w 56 2 w.heap.size (Nat.le_refl _)
  have h0 := h.later ((Below.refl _ _).alloc (Nat.le_refl _) (.cells #[] 56))
  go_enter Tryz.func24, Tryz.ntmps24
  go_wp2_with (at_builtin; refine wpList_append_src _ rfl (.tmp 5) (.tmp 6) 30 rfl w.heap.size 56 i0 _ 2 32 Tryz.underlying30 hi hz0 hz1 hz2 rfl (by decide) _ 0 [] rfl ?a1 A l.length c (l.flatMap subC) rfl ?a2 ?a3 ?a4 ?a5 ?a6 ?a7 ?a8 ?_)
  case a1 => exact hown0
  case a2 => exact flat_len subC_len l
  case a3 => rintro rfl; exact h.row.none_
  case a4 => exact h0.row.news subC_len (by decide)
  case a5 => exact flat_ones subC_one l
  case a6 => unfold maxLen; omega
  case a7 => omega
  case a8 => simp
  intro v1 w1 hown1 hg1 _
  obtain ⟨A1, c1, rfl⟩ := own_slice hown1
  have hb1 : Below w.heap.size w w1 := ((Below.refl _ _).alloc (Nat.le_refl _) _).grown hg1 (by simp) (by intro k hk; simp [Value.ownBlock] at hk; omega)
  have HW : Hid (InvtwinS w l A1 c1 w1) := Lib.hid ⟨l, rfl, by simpa using hown1, fun x hx => FlatP.of_flat ((h.each x hx).below hb1) hb1.size (fun b hb e => by have := (hown1.lt b (by first | exact e | (rw [Nat.zero_add]; exact e))).1; omega), hb1⟩
  have HIl : Hid (∀ tl : List SubD, List.map SubD.v tl = l.map SubD.v → ∀ x ∈ tl, x.v.vals.length ≤ 1000) := Lib.hid (fun tl e x hx => by
    have h1 : x.v ∈ l.map SubD.v := by rw [← e]; exact List.mem_map_of_mem hx
    obtain ⟨y, hy, e2⟩ := List.mem_map.1 h1
    rw [← e2]; exact hil y hy)
  clear hown1 hg1 hown0 h0 hb1 h hil
  go_wp2_with fail
  go_loopw [4] (fun ii wr => ∃ i : Nat, i ≤ l.length ∧ ii = .int .i64 i ∧ Hid (InvtwinS w l A1 c1 wr)) (fun ii _ => l.length - (vInt ii).toNat)
  case atStart => exact ⟨0, Nat.zero_le _, by first | rfl | go_num, HW⟩
  case round =>
    obtain ⟨i, hi2, rfl, hT⟩ := hrel
    clear HW
    by_cases hlt : i < l.length
    · have hil2 : (i : Int) < (l.length : Int) := by omega
      obtain ⟨tl, hm, ho, he, hB⟩ := hT.out
      have hlen : tl.length = l.length := by have := congrArg List.length hm; simpa using this
      have hlt2 : i < tl.length := by omega
      obtain ⟨g, cap, hv, hgb, hglt⟩ := ho.form (by omega)
      simp only [Value.slice.injEq, true_and] at hv
      obtain ⟨rfl, rfl⟩ := hv
      have ha : wr.cell? ⟨g, i * 2 + 1, none⟩ = some (.slice tl[i].V tl[i].v.vals.length tl[i].c) := (ho.cellAt (i * 2 + 1) (by omega)).trans (flat_get subC_len tl i hlt2 1 (by decide))
      have HP := Lib.hid (fun (w2 : World) (hg : wr.grownBy w2 none) A3 c3 n3 hn3 hown => invtwinS_put (A3 := A3) (c3 := c3) (n3 := n3) hm hlt2 ho he hB hg hn3 hown)
      have HOk := Lib.hid (fun (w2 : World) (hg : wr.grownBy w2 none) => (ho.kept hg (.inr (by simp [Value.ownBlock]))))
      have hxl := HIl.out tl hm _ (List.getElem_mem hlt2)
      have HFx := Lib.hid ((he _ (List.getElem_mem hlt2)))
      have HL16 := flat_len subC_len tl
      have HL := Lib.hid HL16
      have HLn := Lib.hid hlen
      have hown2 := Lib.hid (own_empty wr 3 1 wr.heap.size (Nat.le_refl _))
      clear hm ho he hT HL16 hlen
      generalize hxx : tl[i] = x at *
      have HX := Lib.hid hxx
      clear hxx
      go_wp2_with (at_builtin; refine wpList_append_src _ rfl (.tmp 16) (.tmp 21) 32 rfl wr.heap.size 3 j0 _ 1 8 Tryz.underlying32 hj jz0 jz1 jz2 rfl (by decide) _ 0 [] rfl hown2.out x.V x.v.vals.length x.c (x.v.vals.flatMap intC) rfl ?b1 ?b2 ?b3 ?b4 ?b5 ?b6 ?b7 ?_)
      case b1 => exact flat_len intC_len _
      case b2 => exact flat_nil HFx.out.flat
      case b3 => exact Flat.news intC_len (by decide) (HFx.out.flat.later ((Below.refl _ _).alloc (Nat.le_refl _) _))
      case b4 => exact flat_ones intC_one _
      case b5 => unfold maxLen; omega
      case b6 => omega
      case b7 => simp
      intro v' w3 hown3 hg3 _
      obtain ⟨A3, c3, rfl⟩ := own_slice hown3
      have hgn : wr.grownBy w3 none := (World.grownBy_alloc wr _ none).andThen hg3 (fun j e => by simp [Value.ownBlock] at e; omega)
      have hok := HOk.out w3 hgn
      have hf3 := hok.frozenAt (i * 2 + 1)
      have hL := HL.out
      have hLn := HLn.out
      have hc3 : w3.cell? ⟨g, i * 2 + 1, none⟩ = some (.slice x.V x.v.vals.length x.c) := (hok.cellAt (i * 2 + 1) (by omega)).trans ((flat_get subC_len tl i hlt2 1 (by decide)).trans (by rw [HX.out]; rfl))
      have HPut := Lib.hid (HP.out w3 hgn A3 c3 _ rfl hown3)
      clear hL hLn hown3 hok HP HOk hg3 hgn
      go_wp2_with fail
      go_roundw
      case rel => exact ⟨i + 1, by omega, by go_num, Lib.hid HPut.out⟩
      case measure => simp [vInt]; omega
    · have hil2 : ¬ (i : Int) < (l.length : Int) := by omega
      go_wp2_with fail
      go_ret
      obtain ⟨tl, hm, ho, he, hB⟩ := hT.out
      have hlen : tl.length = l.length := by have := congrArg List.length hm; simpa using this
      exact ⟨A1, c1, tl, rfl, Lib.hid ⟨hm, ⟨Flat.of_own (c := c1) subC_len (by decide) (by rw [hlen]; exact ho), fun x hx => (he x hx).flat⟩⟩, hB⟩

/-- Questions in new memory. -/
def TwinQue (w : World) (l : List QueD) (e : Ending) (w' : World) : Prop := ∃ A' c' tl, e = .returned (.slice A' l.length c') ∧ Hid (List.map QueD.v tl = l.map QueD.v ∧ QuesAt w' w'.heap.size A' tl) ∧ Below w.heap.size w w'
def InvtwinQ (w : World) (l : List QueD) (A1 : Option Addr) (c1 : Nat) (wr : World) : Prop := ∃ tl : List QueD, List.map QueD.v tl = l.map QueD.v ∧ wr.ownsRow w.heap.size 25 4 (.slice A1 l.length c1) l.length (tl.flatMap queC) ∧ (∀ x ∈ tl, FlatP 3 wheC wr (fun b => (Value.slice A1 l.length c1).ownBlock ≠ some b) x.W x.v.wheres) ∧ Below w.heap.size w wr
theorem invtwinQ_put {w wr w2 : World} {l : List QueD} {g c1 : Nat} {tl : List QueD} {i : Nat} (hm : List.map QueD.v tl = l.map QueD.v) (hi : i < tl.length) (ho : wr.ownsRow w.heap.size 25 4 (.slice (some ⟨g, 0, none⟩) l.length c1) l.length (tl.flatMap queC))
    (he : ∀ x ∈ tl, FlatP 3 wheC wr (fun b => (Value.slice (some ⟨g, 0, none⟩) l.length c1).ownBlock ≠ some b) x.W x.v.wheres) (hB : Below w.heap.size w wr) (hg : wr.grownBy w2 none) {A3 : Option Addr} {c3 : Nat} {n3 : Nat} (hn3 : n3 = tl[i].v.wheres.length) (hown : w2.ownsRow wr.heap.size 68 3 (.slice A3 n3 c3) n3 (tl[i].v.wheres.flatMap wheC)) :
    InvtwinQ w l (some ⟨g, 0, none⟩) c1 (w2.setCell ⟨g, i * 4 + 0, none⟩ (.slice A3 n3 c3)) := by
  subst hn3
  have hgl := ho.lt g rfl
  have hlen : tl.length = l.length := by have := congrArg List.length hm; simpa using this
  have hF : Fr (fun b => (Value.slice (some ⟨g, 0, none⟩) l.length c1).ownBlock ≠ some b) wr (w2.setCell ⟨g, i * 4 + 0, none⟩ (.slice A3 tl[i].v.wheres.length c3)) := (Fr.grown hg (fun _ _ => by simp)).trans (Fr.set (p := ⟨g, i * 4 + 0, none⟩) (fun e => e rfl) _)
  refine ⟨tl.set i ⟨(tl[i]).v, A3, c3⟩, ?_, ?_, fun x hx => ?_, ?_⟩
  · rw [List.map_set]
    have h1 : (⟨(tl[i]).v, A3, c3⟩ : QueD).v = (List.map QueD.v tl)[i]'(by rw [List.length_map]; exact hi) := by rw [List.getElem_map]
    rw [h1, List.set_getElem_self]
    exact hm
  · have h1 := ((ho.kept hg (.inr (by simp [Value.ownBlock]))).stored (i * 4 + 0) (.slice A3 tl[i].v.wheres.length c3)).1
    rw [flat_set queC_len tl i hi ⟨(tl[i]).v, A3, c3⟩ 0 (.slice A3 tl[i].v.wheres.length c3) (by decide) rfl]
    exact h1
  · rcases List.mem_or_eq_of_mem_set hx with h1 | h1
    · exact (he x h1).move hF
    · subst h1
      exact (FlatP.of_own wheC_len (by decide) hown (fun b h1 _ _ e => by simp [Value.ownBlock] at e; omega)).move (Fr.set (p := ⟨g, i * 4 + 0, none⟩) (fun e => e rfl) _)
  · exact (hB.grown hg hB.size (fun k e => by cases e)).setCell (by show w.heap.size ≤ g; exact hgl.1) _
set_option maxRecDepth 100000 in
set_option maxHeartbeats 4000000 in
theorem twinQ_any (l : List QueD) (A : Option Addr) (c : Nat) (w : World) (h : QuesAt w w.heap.size A l) (hl : l.length ≤ 1000) (hil : ∀ x ∈ l, x.v.wheres.length ≤ 1000) :
    Calls Tryz.prog 25 #[.slice A l.length c] w (TwinQue w l) := by
  obtain ⟨i0, hi, hz0, hz1, hz2⟩ := info_parts queInfo
  obtain ⟨j0, hj, jz0, jz1, jz2⟩ := info_parts wheInfo
  have hown0 := own_empty w 25 4 w.heap.size (Nat.le_refl _)
  have h0 := h.later ((Below.refl _ _).alloc (Nat.le_refl _) (.cells #[] 25))
  go_enter Tryz.func25, Tryz.ntmps25
  go_wp2_with (at_builtin; refine wpList_append_src _ rfl (.tmp 5) (.tmp 6) 35 rfl w.heap.size 25 i0 _ 4 48 Tryz.underlying35 hi hz0 hz1 hz2 rfl (by decide) _ 0 [] rfl ?a1 A l.length c (l.flatMap queC) rfl ?a2 ?a3 ?a4 ?a5 ?a6 ?a7 ?a8 ?_)
  case a1 => exact hown0
  case a2 => exact flat_len queC_len l
  case a3 => rintro rfl; exact h.row.none_
  case a4 => exact h0.row.news queC_len (by decide)
  case a5 => exact flat_ones queC_one l
  case a6 => unfold maxLen; omega
  case a7 => omega
  case a8 => simp
  intro v1 w1 hown1 hg1 _
  obtain ⟨A1, c1, rfl⟩ := own_slice hown1
  have hb1 : Below w.heap.size w w1 := ((Below.refl _ _).alloc (Nat.le_refl _) _).grown hg1 (by simp) (by intro k hk; simp [Value.ownBlock] at hk; omega)
  have HW : Hid (InvtwinQ w l A1 c1 w1) := Lib.hid ⟨l, rfl, by simpa using hown1, fun x hx => FlatP.of_flat ((h.each x hx).below hb1) hb1.size (fun b hb e => by have := (hown1.lt b (by first | exact e | (rw [Nat.zero_add]; exact e))).1; omega), hb1⟩
  have HIl : Hid (∀ tl : List QueD, List.map QueD.v tl = l.map QueD.v → ∀ x ∈ tl, x.v.wheres.length ≤ 1000) := Lib.hid (fun tl e x hx => by
    have h1 : x.v ∈ l.map QueD.v := by rw [← e]; exact List.mem_map_of_mem hx
    obtain ⟨y, hy, e2⟩ := List.mem_map.1 h1
    rw [← e2]; exact hil y hy)
  clear hown1 hg1 hown0 h0 hb1 h hil
  go_wp2_with fail
  go_loopw [4] (fun ii wr => ∃ i : Nat, i ≤ l.length ∧ ii = .int .i64 i ∧ Hid (InvtwinQ w l A1 c1 wr)) (fun ii _ => l.length - (vInt ii).toNat)
  case atStart => exact ⟨0, Nat.zero_le _, by first | rfl | go_num, HW⟩
  case round =>
    obtain ⟨i, hi2, rfl, hT⟩ := hrel
    clear HW
    by_cases hlt : i < l.length
    · have hil2 : (i : Int) < (l.length : Int) := by omega
      obtain ⟨tl, hm, ho, he, hB⟩ := hT.out
      have hlen : tl.length = l.length := by have := congrArg List.length hm; simpa using this
      have hlt2 : i < tl.length := by omega
      obtain ⟨g, cap, hv, hgb, hglt⟩ := ho.form (by omega)
      simp only [Value.slice.injEq, true_and] at hv
      obtain ⟨rfl, rfl⟩ := hv
      have ha : wr.cell? ⟨g, i * 4, none⟩ = some (.slice tl[i].W tl[i].v.wheres.length tl[i].c) := (ho.cellAt (i * 4 + 0) (by omega)).trans (flat_get queC_len tl i hlt2 0 (by decide))
      have HP := Lib.hid (fun (w2 : World) (hg : wr.grownBy w2 none) A3 c3 n3 hn3 hown => invtwinQ_put (A3 := A3) (c3 := c3) (n3 := n3) hm hlt2 ho he hB hg hn3 hown)
      have HOk := Lib.hid (fun (w2 : World) (hg : wr.grownBy w2 none) => (ho.kept hg (.inr (by simp [Value.ownBlock]))))
      have hxl := HIl.out tl hm _ (List.getElem_mem hlt2)
      have HFx := Lib.hid ((he _ (List.getElem_mem hlt2)))
      have HL16 := flat_len queC_len tl
      have HL := Lib.hid HL16
      have HLn := Lib.hid hlen
      have hown2 := Lib.hid (own_empty wr 68 3 wr.heap.size (Nat.le_refl _))
      clear hm ho he hT HL16 hlen
      generalize hxx : tl[i] = x at *
      have HX := Lib.hid hxx
      clear hxx
      go_wp2_with (at_builtin; refine wpList_append_src _ rfl (.tmp 16) (.tmp 21) 23 rfl wr.heap.size 68 j0 _ 3 24 Tryz.underlying23 hj jz0 jz1 jz2 rfl (by decide) _ 0 [] rfl hown2.out x.W x.v.wheres.length x.c (x.v.wheres.flatMap wheC) rfl ?b1 ?b2 ?b3 ?b4 ?b5 ?b6 ?b7 ?_)
      case b1 => exact flat_len wheC_len _
      case b2 => exact flat_nil HFx.out.flat
      case b3 => exact Flat.news wheC_len (by decide) (HFx.out.flat.later ((Below.refl _ _).alloc (Nat.le_refl _) _))
      case b4 => exact flat_ones wheC_one _
      case b5 => unfold maxLen; omega
      case b6 => omega
      case b7 => simp
      intro v' w3 hown3 hg3 _
      obtain ⟨A3, c3, rfl⟩ := own_slice hown3
      have hgn : wr.grownBy w3 none := (World.grownBy_alloc wr _ none).andThen hg3 (fun j e => by simp [Value.ownBlock] at e; omega)
      have hok := HOk.out w3 hgn
      have hf3 := hok.frozenAt (i * 4)
      have hL := HL.out
      have hLn := HLn.out
      have hc3 : w3.cell? ⟨g, i * 4, none⟩ = some (.slice x.W x.v.wheres.length x.c) := (hok.cellAt (i * 4 + 0) (by omega)).trans ((flat_get queC_len tl i hlt2 0 (by decide)).trans (by rw [HX.out]; rfl))
      have HPut := Lib.hid (HP.out w3 hgn A3 c3 _ rfl hown3)
      clear hL hLn hown3 hok HP HOk hg3 hgn
      go_wp2_with fail
      go_roundw
      case rel => exact ⟨i + 1, by omega, by go_num, Lib.hid HPut.out⟩
      case measure => simp [vInt]; omega
    · have hil2 : ¬ (i : Int) < (l.length : Int) := by omega
      go_wp2_with fail
      go_ret
      obtain ⟨tl, hm, ho, he, hB⟩ := hT.out
      have hlen : tl.length = l.length := by have := congrArg List.length hm; simpa using this
      exact ⟨A1, c1, tl, rfl, Lib.hid ⟨hm, ⟨Flat.of_own (c := c1) queC_len (by decide) (by rw [hlen]; exact ho), fun x hx => (he x hx).flat⟩⟩, hB⟩
end Go.Proofs.YtbkekdbabkncfaaGreat

namespace Go.Proofs.YtbkekdbabkncfaaGreat
open Go.RowKit Go.Maps

set_option maxRecDepth 100000 in
set_option maxHeartbeats 8000000 in
theorem sameQues_any (l1 l2 : List QueD) (A B : Option Addr) (a b : Nat) (w : World) (h1 : QuesAt w w.heap.size A l1) (h2 : QuesAt w w.heap.size B l2) (hs : l1.map QueD.v = l2.map QueD.v) (hl : l1.length ≤ 1000) (hv : ∀ x ∈ l1, x.v.wheres.length ≤ 1000) :
    Calls Tryz.prog 29 #[.slice A l1.length a, .slice B l2.length b] w fun e w' => e = .returned (.bool true) ∧ Below w.heap.size w w' := by
  have hll : l1.length = l2.length := by simpa using congrArg List.length hs
  have e1 : ((l1.length : Int) != (l2.length : Int)) = false := by rw [hll]; simp
  have H1 := Lib.hid h1
  have H2 := Lib.hid h2
  have HL := Lib.hid hll
  have HV := Lib.hid hv
  have HS := Lib.hid hs
  clear h1 h2 hll hs hv
  go_enter Tryz.func29, Tryz.ntmps29
  go_wp2_with fail
  go_loopw [5] (fun ii wr => ∃ i : Nat, i ≤ l1.length ∧ ii = .int .i64 i ∧ Hid (Below w.heap.size w wr)) (fun ii _ => l1.length - (vInt ii).toNat)
  case atStart => exact ⟨0, Nat.zero_le _, rfl, Lib.hid (Below.refl _ _)⟩
  case round =>
    obtain ⟨i, hi, rfl, hR⟩ := hrel
    have hB := hR.out
    by_cases hlt : i < l1.length
    · have hil : (i : Int) < (l1.length : Int) := by omega
      have hlt2 : i < l2.length := by rw [← HL.out]; exact hlt
      have hil2 : (i : Int) < (l2.length : Int) := by omega
      have hi1 := Lib.hid (show i + 1 ≤ l1.length by omega)
      obtain ⟨bA, oA, rfl, hbA, a0, a1, a2, a3, m1⟩ := ques_at (H1.out.later hB) hlt
      obtain ⟨bB, oB, rfl, hbB, d0, d1, d2, d3, m2⟩ := ques_at (H2.out.later hB) hlt2
      have hxv := HV.out _ (List.getElem_mem hlt)
      have hev : l1[i].v = l2[i].v := by
        have := List.getElem_of_eq HS.out (i := i) (by simpa using hlt)
        rwa [List.getElem_map, List.getElem_map] at this
      clear hR
      generalize l1[i] = x1 at *
      generalize l2[i] = x2 at *
      obtain ⟨v, W1, w1c⟩ := x1
      obtain ⟨v2, W2, w2c⟩ := x2
      dsimp only at *
      subst hev
      obtain ⟨wh, col, clip, step⟩ := v
      dsimp only at *
      go_upto_region 6 with fail
      go_cut [6, 7] (fun s6 s7 wx => ∃ p q : Nat, s6 = .pointer (some ⟨p, 0, none⟩) ∧ s7 = .pointer (some ⟨q, 0, none⟩) ∧ Hid (Blk wx p #[.slice W1 wh.length w1c, .int .i64 col, .int .i64 clip, .int .i64 step] 25 ∧ Blk wx q #[.slice W2 wh.length w2c, .int .i64 col, .int .i64 clip, .int .i64 step] 25 ∧ Below wr.heap.size wr wx))
      case first =>
        have SK : ∀ W, Below wr.heap.size wr W → Below wr.heap.size wr W ∧ W.cell? ⟨bA, oA + i * 4, none⟩ = some (.slice W1 wh.length w1c) ∧ W.cell? ⟨bA, oA + i * 4 + 1, none⟩ = some (.int .i64 col) ∧ W.cell? ⟨bA, oA + i * 4 + 2, none⟩ = some (.int .i64 clip) ∧ W.cell? ⟨bA, oA + i * 4 + 3, none⟩ = some (.int .i64 step) ∧ W.cell? ⟨bB, oB + i * 4, none⟩ = some (.slice W2 wh.length w2c) ∧ W.cell? ⟨bB, oB + i * 4 + 1, none⟩ = some (.int .i64 col) ∧ W.cell? ⟨bB, oB + i * 4 + 2, none⟩ = some (.int .i64 clip) ∧ W.cell? ⟨bB, oB + i * 4 + 3, none⟩ = some (.int .i64 step) := fun W hW => ⟨hW, (hW.cell (p := ⟨bA, oA + i * 4, none⟩) hbA).trans a0, (hW.cell (p := ⟨bA, oA + i * 4 + 1, none⟩) hbA).trans a1, (hW.cell (p := ⟨bA, oA + i * 4 + 2, none⟩) hbA).trans a2, (hW.cell (p := ⟨bA, oA + i * 4 + 3, none⟩) hbA).trans a3, (hW.cell (p := ⟨bB, oB + i * 4, none⟩) hbB).trans d0, (hW.cell (p := ⟨bB, oB + i * 4 + 1, none⟩) hbB).trans d1, (hW.cell (p := ⟨bB, oB + i * 4 + 2, none⟩) hbB).trans d2, (hW.cell (p := ⟨bB, oB + i * 4 + 3, none⟩) hbB).trans d3⟩
        have dd0 : Below wr.heap.size wr wr.drew := (Below.refl _ _).drew
        go_region_held3 (fun W => Below wr.heap.size wr W ∧ W.cell? ⟨bA, oA + i * 4, none⟩ = some (.slice W1 wh.length w1c) ∧ W.cell? ⟨bA, oA + i * 4 + 1, none⟩ = some (.int .i64 col) ∧ W.cell? ⟨bA, oA + i * 4 + 2, none⟩ = some (.int .i64 clip) ∧ W.cell? ⟨bA, oA + i * 4 + 3, none⟩ = some (.int .i64 step) ∧ W.cell? ⟨bB, oB + i * 4, none⟩ = some (.slice W2 wh.length w2c) ∧ W.cell? ⟨bB, oB + i * 4 + 1, none⟩ = some (.int .i64 col) ∧ W.cell? ⟨bB, oB + i * 4 + 2, none⟩ = some (.int .i64 clip) ∧ W.cell? ⟨bB, oB + i * 4 + 3, none⟩ = some (.int .i64 step)) ((refine SK _ ?_; repeat (first | with_reducible assumption | with_reducible exact Below.refl _ _ | with_reducible refine Below.drew ?_ | with_reducible refine Below.alloc ?_ (by first | omega | (simp; done) | (simp; omega)) _ | with_reducible refine Below.setCell ?_ (by first | omega | (simp; done) | (simp; omega)) _)))
          (first
            | (fail "no call"))
        all_goals first | (go_step; go_step; go_meet) | (go_step; go_meet) | go_meet
        all_goals first
          | exact ⟨_, _, rfl, rfl, Lib.hid ⟨((Blk.new wr _ _).alloc _).drew, (newAt' (wr.alloc _) _ _ (by simp)).drew, (((Below.refl _ _).alloc (Nat.le_refl _) _).alloc (by simp) _).drew⟩⟩
          | exact ⟨_, _, rfl, rfl, Lib.hid ⟨(newAt' (wr.alloc _) _ _ (by simp)).drew, ((Blk.new wr _ _).alloc _).drew, (((Below.refl _ _).alloc (Nat.le_refl _) _).alloc (by simp) _).drew⟩⟩
      case rest =>
        obtain ⟨p, q, rfl, rfl, HC⟩ := hcut
        obtain ⟨kp, kq, hBc⟩ := HC.out
        have hB2 := hB.trans (hBc.mono hB.size)
        have e5 : (col != col) = false := by simp
        have e6 : (clip != clip) = false := by simp
        have e7 : (step != step) = false := by simp
        have e8 : ((wh.length : Int) != (wh.length : Int)) = false := by simp
        have M1 := Lib.hid (m1.later hBc)
        have M2 := Lib.hid (m2.later hBc)
        have kpc := kp.cell
        have kqc := kq.cell
        have gp := kp.lt
        have gq := kq.lt
        have HB2 := Lib.hid hB2
        clear HC m1 m2 a0 a1 a2 a3 d0 d1 d2 d3 hB hBc hB2
        go_wp2_with fail
        clear kpc kqc
        go_loopw [8] (fun ii wr => ∃ k : Nat, k ≤ wh.length ∧ ii = .int .i64 k ∧ Hid (Below wc.heap.size wc wr)) (fun ii _ => wh.length - (vInt ii).toNat)
        case atStart => exact ⟨0, Nat.zero_le _, rfl, Lib.hid (Below.refl _ _)⟩
        case round =>
          obtain ⟨k, hk, rfl, hR⟩ := hrel
          have hB := hR.out
          have kp2 := kp.below hB gp
          have kq2 := kq.below hB gq
          have kpc := kp2.cell
          have kqc := kq2.cell
          by_cases hkl : k < wh.length
          · have hki : (k : Int) < (wh.length : Int) := by omega
            obtain ⟨bS, oS, rfl, hbS, a0, a1, a2⟩ := whes_at (M1.out.later hB) hkl
            obtain ⟨bU, oU, rfl, hbU, d0, d1, d2⟩ := whes_at (M2.out.later hB) hkl
            clear hR
            generalize wh[k] = y at *
            obtain ⟨yc, yl, yh⟩ := y
            dsimp only at *
            have kpa := After.cells (B := wr.heap.size) kp2.cell kp2.lt
            have kqa := After.cells (B := wr.heap.size) kq2.cell kq2.lt
            have f0 := After.cell (B := wr.heap.size) a0 hbS
            have f1 := After.cell (B := wr.heap.size) a1 hbS
            have f2 := After.cell (B := wr.heap.size) a2 hbS
            have g0 := After.cell (B := wr.heap.size) d0 hbU
            have g1' := After.cell (B := wr.heap.size) d1 hbU
            have g2' := After.cell (B := wr.heap.size) d2 hbU
            have y1 : (yc == yc) = true := by simp
            have y2 : (yl == yl) = true := by simp
            have y3 : (yh == yh) = true := by simp
            clear a0 a1 a2 d0 d1 d2
            go_upto_region 12 with fail
            clear kpc kqc
            refine wp_region_class_lit (C := fun w' => ∃ z : After wr.heap.size wr, w' = z.val) (by kernel_rfl) (by kernel_rfl) ⟨⟨_, (Below.refl _ _).drew⟩, rfl⟩ ?_
            repeat (go_big_quiet_step (fail))
            refine wpQuiet_nil ?_
            intro wz0 hw'
            obtain ⟨⟨wz, hz⟩, hw''⟩ := hw'
            dsimp only at hw''
            subst hw''
            clear kpa kqa f0 f1 f2 g0 g1' g2'
            go_wp2_with fail
            go_roundw
            case rel => exact ⟨k + 1, by omega, by go_num, Lib.hid (hB.trans (hz.mono hB.size))⟩
            case measure => simp [vInt]; omega
          · have hki : ¬ (k : Int) < (wh.length : Int) := by omega
            clear hR
            go_wp2_with fail
            go_roundw
            case rel => exact ⟨i + 1, hi1.out, by go_num, Lib.hid (HB2.out.trans (hB.mono HB2.out.size))⟩
            case measure => simp [vInt]; omega
    · have hil : ¬ (i : Int) < (l1.length : Int) := by omega
      clear hR
      go_wp2_with fail
      go_ret
      exact ⟨rfl, hB⟩
end Go.Proofs.YtbkekdbabkncfaaGreat

namespace Go.Proofs.YtbkekdbabkncfaaGreat
open Go.RowKit Go.Maps

set_option maxRecDepth 100000 in
set_option maxHeartbeats 8000000 in
theorem sameTable_any (l1 l2 : List SubD) (A B : Option Addr) (a b : Nat) (w : World) (h1 : SubsAt w w.heap.size A l1) (h2 : SubsAt w w.heap.size B l2) (hs : l1.map SubD.v = l2.map SubD.v) (hl : l1.length ≤ 1000) (hv : ∀ x ∈ l1, x.v.vals.length ≤ 1000) :
    Calls Tryz.prog 28 #[.slice A l1.length a, .slice B l2.length b] w fun e w' => e = .returned (.bool true) ∧ Below w.heap.size w w' := by
  have hll : l1.length = l2.length := by simpa using congrArg List.length hs
  have e1 : ((l1.length : Int) != (l2.length : Int)) = false := by rw [hll]; simp
  have H1 := Lib.hid h1
  have H2 := Lib.hid h2
  have HL := Lib.hid hll
  have HV := Lib.hid hv
  have HS := Lib.hid hs
  clear h1 h2 hll hs hv
  go_enter Tryz.func28, Tryz.ntmps28
  go_wp2_with fail
  go_loopw [5] (fun ii wr => ∃ i : Nat, i ≤ l1.length ∧ ii = .int .i64 i ∧ Hid (Below w.heap.size w wr)) (fun ii _ => l1.length - (vInt ii).toNat)
  case atStart => exact ⟨0, Nat.zero_le _, rfl, Lib.hid (Below.refl _ _)⟩
  case round =>
    obtain ⟨i, hi, rfl, hR⟩ := hrel
    have hB := hR.out
    by_cases hlt : i < l1.length
    · have hil : (i : Int) < (l1.length : Int) := by omega
      have hlt2 : i < l2.length := by rw [← HL.out]; exact hlt
      have hil2 : (i : Int) < (l2.length : Int) := by omega
      obtain ⟨bA, oA, rfl, hbA, a0, a1, m1⟩ := subs_at (H1.out.later hB) hlt
      obtain ⟨bB, oB, rfl, hbB, d0, d1, m2⟩ := subs_at (H2.out.later hB) hlt2
      have hxv := HV.out _ (List.getElem_mem hlt)
      have hev : l1[i].v = l2[i].v := by
        have := List.getElem_of_eq HS.out (i := i) (by simpa using hlt)
        rwa [List.getElem_map, List.getElem_map] at this
      clear hR
      generalize l1[i] = x1 at *
      generalize l2[i] = x2 at *
      obtain ⟨v, V1, v1⟩ := x1
      obtain ⟨v2, V2, v2c⟩ := x2
      dsimp only at *
      subst hev
      obtain ⟨id, vals⟩ := v
      dsimp only at *
      have e3 : (id != id) = false := by simp
      have e4 : ((vals.length : Int) != (vals.length : Int)) = false := by simp
      have f0 := After.cell (B := wr.heap.size) a0 hbA
      have f1 := After.cell (B := wr.heap.size) a1 hbA
      have g0 := After.cell (B := wr.heap.size) d0 hbB
      have g1 := After.cell (B := wr.heap.size) d1 hbB
      go_upto_region 6 with fail
      refine wp_region_class_lit (C := fun w' => ∃ z : After wr.heap.size wr, w' = z.val) (by kernel_rfl) (by kernel_rfl) ⟨⟨_, (Below.refl _ _).drew⟩, rfl⟩ ?_
      repeat (go_big_quiet_step (fail))
      refine wpQuiet_nil ?_
      intro wz0 hw'
      obtain ⟨⟨wz, hz⟩, hw''⟩ := hw'
      dsimp only at hw''
      subst hw''
      have a1' := (hz.cell (p := ⟨bA, oA + i * 2 + 1, none⟩) hbA).trans a1
      have d1' := (hz.cell (p := ⟨bB, oB + i * 2 + 1, none⟩) hbB).trans d1
      have hbA' := Nat.lt_of_lt_of_le hbA hz.size
      have hbB' := Nat.lt_of_lt_of_le hbB hz.size
      have M1 := Lib.hid (m1.later hz)
      have M2 := Lib.hid (m2.later hz)
      have HB1 := Lib.hid (hB.trans (hz.mono hB.size))
      clear f0 f1 g0 g1 a0 a1 d0 d1 m1 m2 hB hz hbA hbB
      go_wp2_with fail
      go_loopw [6] (fun kk wq => ∃ k : Nat, k ≤ vals.length ∧ kk = .int .i64 k ∧ Hid (Below wz0.heap.size wz0 wq)) (fun kk _ => vals.length - (vInt kk).toNat)
      case atStart => exact ⟨0, Nat.zero_le _, rfl, Lib.hid (Below.refl _ _)⟩
      case round =>
        obtain ⟨k, hk, rfl, hR⟩ := hrel
        have hB := hR.out
        have a1 := (hB.cell (p := ⟨bA, oA + i * 2 + 1, none⟩) hbA').trans a1'
        have d1 := (hB.cell (p := ⟨bB, oB + i * 2 + 1, none⟩) hbB').trans d1'
        by_cases hkt : k < vals.length
        · have hkl : (k : Int) < (vals.length : Int) := by omega
          obtain ⟨b1, o1, rfl, hb1, c0⟩ := ints_at (M1.out.later hB) hkt
          obtain ⟨b2, o2, rfl, hb2, c1⟩ := ints_at (M2.out.later hB) hkt
          generalize vals[k] = y at *
          have e5 : (y != y) = false := by simp
          have f1 := After.cell (B := wr.heap.size) a1 (Nat.lt_of_lt_of_le hbA' hB.size)
          have g1 := After.cell (B := wr.heap.size) d1 (Nat.lt_of_lt_of_le hbB' hB.size)
          have f2 := After.cell (B := wr.heap.size) c0 hb1
          have g2 := After.cell (B := wr.heap.size) c1 hb2
          clear hR
          go_upto_region 11 with fail
          refine wp_region_class_lit (C := fun w' => ∃ z : After wr.heap.size wr, w' = z.val) (by kernel_rfl) (by kernel_rfl) ⟨⟨_, (Below.refl _ _).drew⟩, rfl⟩ ?_
          repeat (go_big_quiet_step (fail))
          refine wpQuiet_nil ?_
          intro wz0 hw'
          obtain ⟨⟨wz, hz⟩, hw''⟩ := hw'
          dsimp only at hw''
          subst hw''
          clear f1 g1 f2 g2
          go_wp2_with fail
          go_roundw
          case rel => exact ⟨k + 1, by omega, by go_num, Lib.hid (hB.trans (hz.mono hB.size))⟩
          case measure => simp [vInt]; omega
        · have hkl : ¬ (k : Int) < (vals.length : Int) := by omega
          clear hR
          go_wp2_with fail
          go_roundw
          case rel => exact ⟨i + 1, by omega, by go_num, Lib.hid (HB1.out.trans (hB.mono HB1.out.size))⟩
          case measure => simp [vInt]; omega
    · have hil : ¬ (i : Int) < (l1.length : Int) := by omega
      clear hR
      go_wp2_with fail
      go_ret
      exact ⟨rfl, hB⟩
end Go.Proofs.YtbkekdbabkncfaaGreat
