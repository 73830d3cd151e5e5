/- A table at work, opened by the program. -/
import Derived.Test.YtbkekdbabkncfaaGreatUPrg3
import Derived.Test.YtbkekdbabkncfaaGreatUPrg2
import Derived.Test.YtbkekdbabkncfaaGreatUIter
import Derived.Test.YtbkekdbabkncfaaGreatD2
import Derived.Test.YtbkekdbabkncfaaGreatD1

namespace Go.Proofs.YtbkekdbabkncfaaGreat
open Go.RowKit Go.Maps

theorem grown_set (w : World) (b i : Nat) (v : Value) : w.grownBy (w.setCell ⟨b, i, none⟩ v) (some b) := ⟨rfl, rfl, rfl, by simp, fun k _ hk => Below.heap_setCell _ _ _ _ (fun e => hk (by rw [e]))⟩
/-- A table at work, in memory from block B on. -/
structure TabN (B : Nat) (w : World) (columns : Int) (ol : List SubD) (A : Option Addr) (m : Nat) : Prop where
  ids : FlatP 1 intC w (fun b => B ≤ b) A (ol.map fun x => x.v.id)
  low : B ≤ m
  map : ∃ G n, MapFn w Tryz.prog 3 m n G ∧ ∀ x ∈ ol, G (.int .i64 x.v.id) = some (valsV x)
  vals : ∀ x ∈ ol, IntsAt w w.heap.size x.V x.v.vals
  ok : ∀ x ∈ ol, subB columns x.v = true
  len : ol.length ≤ 16
  col : 1 ≤ columns ∧ columns ≤ 5
theorem TabN.tab {B : Nat} {w : World} {columns : Int} {ol : List SubD} {A : Option Addr} {m : Nat} (h : TabN B w columns ol A m) : TabAt w columns ol A m := ⟨h.ids.flat, h.map, h.vals, h.ok, h.len, h.col⟩
/-- A table at work, in new memory. -/
def OpenU (w : World) (columns : Int) (l : List SubD) (e : Ending) (w' : World) : Prop := ∃ ol A c m, e = .returned (.tuple #[.agg #[.slice A (List.length ol) c, .map (some m)], .int .i64 0]) ∧ Hid (ol.Perm l ∧ ol.Pairwise (fun x y => x.v.id ≤ y.v.id) ∧ TabN w.heap.size w' columns ol A m) ∧ Below w.heap.size w w'
/-- A list in new memory, by its numbers. -/
def ByPost (w : World) (L : List SubD) (e : Ending) (w' : World) : Prop := ∃ A' c', ∃ l' : List SubD, e = .returned (.slice A' l'.length c') ∧ l'.Perm L ∧ l'.Pairwise (fun x y => x.v.id ≤ y.v.id) ∧ w'.ownsRow w.heap.size 56 2 (.slice A' l'.length c') l'.length (l'.flatMap subC) ∧ Below w.heap.size w w'
/-- What order.By does with a list of subjects. -/
def ByAny : Prop := ∀ (Bs : Nat) (A : Option Addr) (cap : Nat) (L : List SubD) (fb : Nat) (w : World), L.length ≤ 1000 → Bs < w.heap.size → w.cell? ⟨Bs, 0, none⟩ = some (.slice A L.length cap) → Flat 2 subC w w.heap.size A L → fb < w.heap.size → w.cell? ⟨fb, 0, none⟩ = some (.func (.func 88) #[] #[]) →
    Calls Tryz.prog 86 #[.func (.func 120) #[] #[.pointer (some ⟨Bs, 0, none⟩)], .slice (some ⟨fb, 0, none⟩) 1 1] w (ByPost w L)
/-- The first i numbers have come. -/
def OpnR (w6 : World) (q b : Nat) (ol : List SubD) (i : Nat) (wr : World) : Prop := ∃ A c, Blk wr q #[.slice A i c, .map (some b)] 72 ∧ wr.ownsRow w6.heap.size 3 1 (.slice A i c) i (((ol.take i).map fun x => x.v.id).flatMap intC) ∧ w6.grownBy wr (some q)

set_option maxRecDepth 100000 in
set_option maxHeartbeats 4000000 in
theorem open_bad (columns : Int) (l : List SubD) (A : Option Addr) (c : Nat) (w : World) (h : SubsAt w w.heap.size A l) (hl : l.length ≤ maxLen) (hm : ∀ x ∈ l, x.v.vals.length ≤ maxLen) (ht : tabB columns (l.map SubD.v) = false) :
    Calls Tryz.prog 61 #[.int .i64 columns, .slice A l.length c] w fun e w' => e = .returned (.tuple #[.agg #[.slice none 0 0, .map none], .int .i64 100]) ∧ Below w.heap.size w w' := by
  have b1 := (Below.refl w.heap.size w).alloc (Nat.le_refl _) (.cells #[.slice none 0 0, .map none] 72)
  have k1 := Blk.new w #[.slice none 0 0, .map none] 72
  have hT : tabE columns (l.map SubD.v) = 100 := by unfold tabE; rw [ht]; rfl
  have HC := Lib.hid (fun W hb => checkU_any columns l A c W (h.later hb) hl hm)
  rw [hT] at HC
  have g1 := k1.lt
  clear h hm ht hT
  go_enter Tryz.func61, Tryz.ntmps61
  go_upto_region 3 with (go_at_call 22; (with_reducible refine (HC.out _ b1).mono ?_); rintro e w1 ⟨rfl, h1⟩; have b2 := b1.trans (h1.mono b1.size); have k2 := k1.below h1 g1)
  have k2c := k2.cell
  have k2f := k2.free
  have b3 := (b2.setCell (p := ⟨w.heap.size, 0, none⟩) (Nat.le_refl _) (.slice none 0 0)).setCell (p := ⟨w.heap.size, 1, none⟩) (Nat.le_refl _) (.map none)
  have r0 := ((k2.set 0 (.slice none 0 0)).set 1 (.map none)).cell
  go_wp2_with fail
  refine bodyPost_ret (v := .tuple #[.agg #[.slice none 0 0, .map none], .int .i64 100]) ?hres rfl ?hpost
  case hres => simp [results, Tryz.results61, go_sem, r0]
  case hpost => exact ⟨rfl, b3⟩
set_option maxRecDepth 100000 in
set_option maxHeartbeats 8000000 in
theorem open_good (columns : Int) (l : List SubD) (A : Option Addr) (c : Nat) (w : World) (h : SubsAt w w.heap.size A l) (ht : tabB columns (l.map SubD.v) = true) (hm : ∀ x ∈ l, x.v.vals.length ≤ maxLen) (HBy : ByAny) :
    Calls Tryz.prog 61 #[.int .i64 columns, .slice A l.length c] w (OpenU w columns l) := by
  obtain ⟨i4, hi4, hq0, hq1, hq2⟩ := info_parts intInfo
  obtain ⟨hcol, hl16, hsub, hnd⟩ := ask_parts ht
  rw [List.length_map] at hl16
  have hnd2 : (l.map fun x => x.v.id).Nodup := by rw [List.map_map] at hnd; exact hnd
  have hsub2 : ∀ x ∈ l, subB columns x.v = true := fun x hx => hsub _ (List.mem_map_of_mem hx)
  have hid : ∀ x ∈ l, 0 ≤ x.v.id ∧ x.v.id ≤ 999999 := fun x hx => (sub_parts (hsub2 x hx)).1
  have hlm : l.length ≤ maxLen := by unfold maxLen; omega
  have b1 := (Below.refl w.heap.size w).alloc (Nat.le_refl _) (.cells #[.slice none 0 0, .map none] 72)
  have k1 := Blk.new w #[.slice none 0 0, .map none] 72
  have hT : tabE columns (l.map SubD.v) = 0 := by unfold tabE; rw [ht]; rfl
  have HC := Lib.hid (fun W hb => checkU_any columns l A c W (h.later hb) hlm hm)
  rw [hT] at HC
  have HV := Lib.hid (fun W hb => valuesU_any l A c W (h.later hb) (by omega) hid)
  have HS := Lib.hid (fun W => callsIn_wide.1 (valuesS_in Fence.wide 3 trivial rfl A l.length c W))
  have HB := Lib.hid (fun Bs fb W (hb : Below w.heap.size w W) hBs hc hfb hf0 => HBy Bs A c l fb W (by omega) hBs hc (h.later hb).row hfb hf0)
  have g1 := k1.lt
  have HH := Lib.hid h
  have HCol := Lib.hid hcol
  have HL := Lib.hid hl16
  have HN := Lib.hid hnd2
  have HSB := Lib.hid hsub2
  clear HBy h hm ht hT hcol hnd hnd2 hsub hsub2 hid hlm
  go_enter Tryz.func61, Tryz.ntmps61
  go_upto_region 4 with (go_at_call 22; (with_reducible refine (HC.out _ b1).mono ?_); rintro e w1 ⟨rfl, h1⟩; have b2 := b1.trans (h1.mono b1.size); have k2 := k1.below h1 g1)
  clear k1 g1
  have g2 := k2.lt
  go_upto_region 5 with (go_at_call 80; (with_reducible refine (HV.out _ b2).mono ?_); rintro e w2 ⟨b, rfl, hbl, hM, h2⟩; have b3 := b2.trans (h2.mono b2.size); have k3 := k2.below h2 g2)
  clear k2 b2
  have g3 := k3.lt
  have hblt := hM.lt
  have hM3 := hM.alloc (.cells #[.slice none 0 0, .map (some b)] 72)
  have k4 := k3.alloc (.cells #[.slice none 0 0, .map (some b)] 72)
  have q4 := Blk.new w2 #[.slice none 0 0, .map (some b)] 72
  have b4 := b3.alloc b3.size (.cells #[.slice none 0 0, .map (some b)] 72)
  have hsz4 : (w2.alloc (.cells #[.slice none 0 0, .map (some b)] 72)).heap.size = w2.heap.size + 1 := by simp
  generalize hqq : w2.heap.size = q at *
  generalize hW4 : w2.alloc (.cells #[.slice none 0 0, .map (some b)] 72) = W4 at *
  have HQQ := Lib.hid hqq
  clear hW4 k3 b3 hM hqq
  have b5 := b4.alloc b4.size (.cells #[.slice A l.length c] 30)
  have e5 := Blk.new W4 #[.slice A l.length c] 30
  have b6 := b5.alloc b5.size (.cells #[.func (.func 88) #[] #[]] 141)
  have e6 := e5.alloc (.cells #[.func (.func 88) #[] #[]] 141)
  have f6 := Blk.new (W4.alloc (.cells #[.slice A l.length c] 30)) #[.func (.func 88) #[] #[]] 141
  have x6 := ((Below.refl W4.heap.size W4).alloc (Nat.le_refl _) (.cells #[.slice A l.length c] 30)).alloc (by simp) (.cells #[.func (.func 88) #[] #[]] 141)
  have hc6 : ((W4.alloc (.cells #[.slice A l.length c] 30)).alloc (.cells #[.func (.func 88) #[] #[]] 141)).cell? ⟨W4.heap.size, 0, none⟩ = some (.slice A l.length c) := e6.cell 0
  have hf6 : ((W4.alloc (.cells #[.slice A l.length c] 30)).alloc (.cells #[.func (.func 88) #[] #[]] 141)).cell? ⟨W4.heap.size + 1, 0, none⟩ = some (.func (.func 88) #[] #[]) := by have h0 := f6.cell 0; rw [World.size_alloc] at h0; exact h0
  have HBI := Lib.hid (HB.out W4.heap.size (W4.heap.size + 1) _ b6 e6.lt hc6 (by simp) hf6)
  clear HB hc6 hf6 e6 f6 e5 b5
  have hq4 : q < W4.heap.size := by omega
  clear hsz4
  go_upto_region 6 with (first
    | (go_at_call 87; (with_reducible refine (HS.out _).mono ?_); rintro e w5 ⟨rfl, rfl⟩)
    | (go_at_call 86; (with_reducible refine (HBI.out).mono ?_); rintro e w7 ⟨A', c', ol, rfl, hp, hs, hown, h7⟩))
  have hx7 := x6.trans (h7.mono x6.size)
  have q7 := q4.below hx7 hq4
  have m7 := hM3.below hx7 hM3.lt
  have k7 := k4.below hx7 k4.lt
  have b7 := b4.trans (hx7.mono b4.size)
  have hol : ol.length ≤ 16 := by have := hp.length_eq; have := HL.out; omega
  have HRow : Hid (FlatP 2 subC w7 (fun x => x ≠ q) A' ol) := Lib.hid (FlatP.of_own subC_len (by decide) hown (fun x h1 _ _ => by have := x6.size; omega))
  have hq7 : q < w7.heap.size := q7.lt
  have HI0 : Hid (OpnR w7 q b ol 0 w7) := Lib.hid ⟨none, 0, q7, World.ownsRow_nil _ _ _ _, World.grownBy.refl _ _⟩
  have HP := Lib.hid hp
  have HSo := Lib.hid hs
  have HM7 := Lib.hid m7
  have HK7 := Lib.hid k7
  have HB7 := Lib.hid b7
  have g3' := g3
  have hbq := hblt
  clear hp hs m7 k7 b7 q7 hown h7 hx7 x6 q4 hM3 k4 b4 b6 HBI HS HV HC b1 h1 h2
  go_loopw [25] (fun ii wr => ∃ i : Nat, i ≤ ol.length ∧ ii = .int .i64 i ∧ Hid (OpnR w7 q b ol i wr)) (fun ii _ => ol.length - (vInt ii).toNat)
  case atStart => exact ⟨0, Nat.zero_le _, rfl, HI0⟩
  case round =>
    obtain ⟨i, hi, rfl, hR⟩ := hrel
    clear HI0
    obtain ⟨A2, c2, hq, ho, hg⟩ := hR.out
    clear hR
    by_cases hlt : i < ol.length
    · have hil : (i : Int) < (ol.length : Int) := by omega
      obtain ⟨b', off, rfl, hb', hne, hc⟩ := (HRow.out.move (Fr.grown hg (fun x hx e => hx (Option.some.inj e)))) i hlt
      have c0 := hc 0 (by omega)
      have c1 := hc 1 (by omega)
      have HT : Hid ((((ol.take (i + 1)).map fun x => x.v.id).flatMap intC) = (((ol.take i).map fun x => x.v.id).flatMap intC) ++ intC ol[i].v.id) := Lib.hid (by rw [List.take_succ_eq_append_getElem hlt, List.map_append, List.flatMap_append]; simp)
      clear hc
      generalize ol[i] = x at *
      have c0' : wr.cell? ⟨b', off + i * 2, none⟩ = some (.int .i64 x.v.id) := c0
      have c1' : wr.cell? ⟨b', off + i * 2 + 1, none⟩ = some (.slice x.V x.v.vals.length x.c) := c1
      have hqc := hq.cell
      have HQ := Lib.hid hq
      have HO := Lib.hid ho
      have HG := Lib.hid hg
      have hgs := hg.size
      have hnew := int_new (wr.alloc (.cells #[.int .i64 x.v.id, .slice x.V x.v.vals.length x.c] 56)) x.v.id 3
      rw [World.size_alloc] at hnew
      have HNew := Lib.hid hnew
      have hqw : q < wr.heap.size := hq.lt
      clear c0 c1 hq ho hg hnew
      go_wp2_with (at_builtin; refine wpList_append_own_at _ rfl _ _ 32 rfl w7.heap.size 3 i4 _ 1 8 Tryz.underlying32 hi4 hq0 hq1 hq2 rfl (by decide) _ _ _ rfl ((HO.out.alloc _).alloc _) ⟨wr.heap.size + 1, 0, none⟩ 1 1 (intC x.v.id) rfl rfl HNew.out (intC_one _) (by unfold maxLen; omega) (by omega) (by simp; omega) ?_; intro v' w3 hown3 hg3 _ hat3; obtain ⟨A3, c3, rfl⟩ := own_slice hown3; have hq3 := ((HQ.out.alloc (.cells #[.int .i64 x.v.id, .slice x.V x.v.vals.length x.c] 56)).alloc (.cells #[.int .i64 x.v.id] 3)).grown hg3 (fun e => by have := (HO.out.lt q e.symm).1; omega); have hq3c := hq3.cell; have hq3f := hq3.free)
      go_roundw
      case rel =>
        refine ⟨i + 1, by omega, by go_num, Lib.hid ⟨A3, c3, hq3.set 0 _, ?_, ?_⟩⟩
        · rw [HT.out]
          exact ownsRow_setCell_below hown3 (by show q < _; omega) _
        · refine ((((HG.out.trans (World.grownBy_alloc _ _ _)).trans (World.grownBy_alloc _ _ _)).andThen hg3 (fun j e => .inl (HO.out.lt j e).1))).trans (grown_set _ _ _ _)
      case measure => simp [vInt]; omega
    · have hil : ¬ (i : Int) < (ol.length : Int) := by omega
      obtain rfl : i = ol.length := by omega
      have hqc := hq.cell
      have hkr := HK7.out.grown hg (by simp; omega)
      have hkc := hkr.cell
      have hkf := hkr.free
      have hbf := (HB7.out.grown hg HB7.out.size (fun k e => by have := Option.some.inj e; omega)).setCell (p := ⟨w.heap.size, 0, none⟩) (Nat.le_refl _) (.slice A2 ol.length c2) |>.setCell (p := ⟨w.heap.size, 1, none⟩) (Nat.le_refl _) (.map (some b))
      have r0 := ((hkr.set 0 (.slice A2 ol.length c2)).set 1 (.map (some b))).cell
      have hw7 := HK7.out.lt
      have hF := (Fr.set (P := fun x => w.heap.size ≤ x ∧ x ≠ w.heap.size) (w := wr) (p := ⟨w.heap.size, 0, none⟩) (fun e => e.2 rfl) (.slice A2 ol.length c2)).trans (Fr.set (p := ⟨w.heap.size, 1, none⟩) (fun e => e.2 rfl) (.map (some b)))
      have hids : FlatP 1 intC wr (fun x => w.heap.size ≤ x ∧ x ≠ w.heap.size) A2 (ol.map fun x => x.v.id) := by
        have h1 := ho
        rw [List.take_length] at h1
        exact FlatP.of_own intC_len (by decide) (by rw [List.length_map]; exact h1) (fun x h1 _ _ => by omega)
      have hids2 := (hids.move hF).imp (Q := fun x => w.heap.size ≤ x) (fun _ _ e => e.1)
      have hmr := ((HM7.out.kept hg (by simp; omega)).setCell (a := ⟨w.heap.size, 0, none⟩) (by show b ≠ w.heap.size; omega) (.slice A2 ol.length c2)).setCell (a := ⟨w.heap.size, 1, none⟩) (by show b ≠ w.heap.size; omega) (.map (some b))
      have HTab : Hid (TabN w.heap.size ((wr.setCell ⟨w.heap.size, 0, none⟩ (.slice A2 ol.length c2)).setCell ⟨w.heap.size, 1, none⟩ (.map (some b))) columns ol A2 b) := Lib.hid ⟨hids2, by omega, ⟨valG l, l.length, hmr, fun x hx => valG_get HN.out (HP.out.mem_iff.1 hx)⟩, fun x hx => (HH.out.each x (HP.out.mem_iff.1 hx)).later hbf, fun x hx => HSB.out x (HP.out.mem_iff.1 hx), hol, HCol.out⟩
      have HBF := Lib.hid hbf
      clear hmr hids hids2 hF hbf ho hg hkr hq
      go_wp2_with fail
      refine bodyPost_ret (v := .tuple #[.agg #[.slice A2 ol.length c2, .map (some b)], .int .i64 0]) ?hres rfl ?hpost
      case hres => simp [results, Tryz.results61, go_sem, r0]
      case hpost => exact ⟨ol, A2, c2, b, rfl, Lib.hid ⟨HP.out, HSo.out, HTab.out⟩, HBF.out⟩
end Go.Proofs.YtbkekdbabkncfaaGreat
