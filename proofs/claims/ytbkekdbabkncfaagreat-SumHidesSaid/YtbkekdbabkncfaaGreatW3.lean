/- Joined, by the program. Written by v8.py. -/
import Derived.Test.YtbkekdbabkncfaaGreatW2

namespace Go.Proofs.YtbkekdbabkncfaaGreat
open Go.RowKit Go.Maps

theorem wit_len {e : Eqn} {l : Led} (hb : witB e l = true) : (witE e l).fs.length = e.fs.length ∧ (witE e l).ps.length = e.ps.length := by
  unfold witB at hb
  simp only [Bool.and_eq_true, decide_eq_true_eq] at hb
  exact ⟨less_len (less_parts hb.1.2).2.2.2.2, less_len (less_parts hb.2).2.2.2.2⟩
/-- The first i are done. -/
def joinV (L : List Led) (x : Led) (i : Nat) : List Led := (L.take i).map (fun l => (⟨witE l.e x, l.at_⟩ : Led)) ++ L.drop i
theorem joinV_get {L0 : List Led} {x : Led} {i : Nat} (hi : i < L0.length) : (joinV L0 x i)[i]? = some L0[i] := by
  unfold joinV
  rw [List.getElem?_append_right (by simp; omega)]
  simp [Nat.min_eq_left (Nat.le_of_lt hi), hi]
theorem joinV_set {L0 : List Led} {x : Led} {i : Nat} (hi : i < L0.length) : (joinV L0 x i).set i ⟨witE L0[i].e x, L0[i].at_⟩ = joinV L0 x (i + 1) := by
  unfold joinV
  rw [List.drop_eq_getElem_cons hi, List.set_append_right _ _ (by simp; omega), List.length_map, List.length_take, Nat.min_eq_left (Nat.le_of_lt hi), Nat.sub_self, List.set_cons_zero, List.take_succ_eq_append_getElem hi, List.map_append, List.append_assoc]
  rfl
theorem joinV_len {L0 : List Led} {x : Led} {i : Nat} (hi : i ≤ L0.length) : (joinV L0 x i).length = L0.length := by simp [joinV]; omega
def JoinInv (B : Nat) (A : Option Addr) (c : Nat) (x : Led) (L0 : List Led) (i : Nat) (W w : World) : Prop := ∃ L : List LedD, L.map LedD.v = joinV L0 x i ∧ LedsOwn B w A c L ∧ smallL L ∧ L.length = L0.length ∧ Below B W w

/-- One more behind. -/
theorem leds_snoc {B : Nat} {w w3 : World} {A A' : Option Addr} {c c' : Nat} {L : List LedD} {x : LedD} (hO : LedsOwn B w A c L) (hx : EqF w (fun b => (Value.slice A L.length c).ownBlock ≠ some b) x) (hg : w.grownBy w3 (Value.slice A L.length c).ownBlock) (hor : (Value.slice A' (L.length + 1) c').ownBlock = (Value.slice A L.length c).ownBlock ∨ ∃ k, (Value.slice A' (L.length + 1) c').ownBlock = some k ∧ w.heap.size ≤ k) (hown : w3.ownsRow B 116 3 (.slice A' (L.length + 1) c') (L.length + 1) (L.flatMap ledC ++ ledC x)) : LedsOwn B w3 A' c' (L ++ [x]) := by
  have hmv : ∀ (F : Option Addr) (l : List Frc), FlatP 2 frcC w (fun b => (Value.slice A L.length c).ownBlock ≠ some b) F l → FlatP 2 frcC w3 (fun b => (Value.slice A' (L.length + 1) c').ownBlock ≠ some b) F l := fun F l h => by
    refine ((h.imp (Q := fun b => (Value.slice A L.length c).ownBlock ≠ some b ∧ b < w.heap.size) (fun b hb h => ⟨h, hb⟩)).move (Fr.grown hg (fun b hb e => hb.1 e.symm))).imp (fun b _ hb e => ?_)
    rcases hor with h1 | ⟨k, h1, h2⟩
    · rw [h1] at e; exact hb.1 e
    · rw [h1] at e; cases e; omega
  refine ⟨?_, fun y hy => ?_⟩
  · rw [List.flatMap_append, List.length_append]
    simpa using hown
  · rw [List.length_append]
    rw [List.mem_append] at hy
    rcases hy with h1 | h1
    · exact ⟨hmv _ _ (hO.2 y h1).1, hmv _ _ (hO.2 y h1).2⟩
    · rw [List.mem_singleton] at h1
      subst h1
      exact ⟨hmv _ _ hx.1, hmv _ _ hx.2⟩
theorem led_new (W : World) (x : LedD) (t : TypeId) : ∀ j u, (ledC x)[j]? = some u → (W.alloc (.cells #[.slice x.F x.v.e.fs.length x.f, .slice x.P x.v.e.ps.length x.p, .int .i64 x.v.at_] t)).cell? ((⟨W.heap.size, 0, none⟩ : Addr).add j) = some u := fun j u hj => by
  rw [WideShapes.add_plain, Nat.zero_add]
  exact ((Blk.new W _ t).cell j).trans (by simpa [ledC] using hj)
theorem joinV_all {L0 : List Led} {x : Led} : joinV L0 x L0.length ++ [x] = joinL L0 x := by simp [joinV, joinL]
theorem ledInfo : (Tryz.prog.info? 116).map (fun i => (i.zero, i.size, i.bytes)) = some (some (.agg #[.slice none 0 0, .slice none 0 0, .int .i64 0]), 3, 56) := by kernel_rfl
set_option maxRecDepth 100000 in
set_option maxHeartbeats 8000000 in
theorem joined_any (B : Nat) (L : List LedD) (A : Option Addr) (c : Nat) (x : Led) (G R : Option Addr) (g r : Nat) (w : World) (hB : B ≤ w.heap.size) (ho : LedsOwn B w A c L) (hs : smallL L) (hL : L.length ≤ 1000) (hx : EqF w (fun b => (Value.slice A L.length c).ownBlock ≠ some b) ⟨x, G, g, R, r⟩) (hxs : x.e.fs.length ≤ 1000 ∧ x.e.ps.length ≤ 1000) (hb : joinB (L.map LedD.v) x = true) :
    Calls Tryz.prog 103 #[.slice A L.length c, .agg #[.slice G x.e.fs.length g, .slice R x.e.ps.length r, .int .i64 x.at_]] w fun e w' => ∃ A' c' L', e = .returned (.slice A' L'.length c') ∧ L'.map LedD.v = joinL (L.map LedD.v) x ∧ Hid (LedsOwn B w' A' c' L' ∧ smallL L') ∧ Below B w w' := by
  have b1 := (Below.refl w.heap.size w).alloc (Nat.le_refl _) (.cells #[.slice G x.e.fs.length g, .slice R x.e.ps.length r, .int .i64 x.at_] 116)
  have k1 := Blk.new w #[.slice G x.e.fs.length g, .slice R x.e.ps.length r, .int .i64 x.at_] 116
  have HL0 : Hid (∀ i, (hi : i < L.length) → witB (L[i].v.e) x = true) := Lib.hid (fun i hi => by
    unfold joinB at hb
    rw [List.all_eq_true] at hb
    exact hb _ (List.mem_map_of_mem (List.getElem_mem hi)))
  have HI0 : Hid (JoinInv B A c x (L.map LedD.v) 0 w (w.alloc (.cells #[.slice G x.e.fs.length g, .slice R x.e.ps.length r, .int .i64 x.at_] 116))) := Lib.hid ⟨L, by simp [joinV], ho.later b1, hs, by simp, b1.mono hB⟩
  go_enter Tryz.func103, Tryz.ntmps103
  obtain ⟨i6, hi6, hq0, hq1, hq2⟩ := info_parts ledInfo
  have g1 := k1.lt
  have HGl : Hid (∀ b, (Value.slice A L.length c).ownBlock = some b → b < w.heap.size) := Lib.hid (fun b hb => (ho.1.lt b hb).2)
  clear ho hb
  have HxF := Lib.hid hx
  have HLen : Hid (∀ i, i ≤ L.length → (joinV (L.map LedD.v) x i).length = L.length) := Lib.hid (fun i hi => by rw [joinV_len (by simpa using hi)]; simp)
  clear hx
  go_wp2_with fail
  generalize hW1 : w.alloc (.cells #[.slice G x.e.fs.length g, .slice R x.e.ps.length r, .int .i64 x.at_] 116) = W1 at *
  have hz1 : W1.heap.size = w.heap.size + 1 := by subst hW1; simp
  clear hW1
  go_loopw [9] (fun ii wr => ∃ i : Nat, i ≤ L.length ∧ ii = .int .i64 i ∧ Hid (JoinInv B A c x (L.map LedD.v) i w wr ∧ (∀ j, wr.cell? ⟨w.heap.size, j, none⟩ = (#[.slice G x.e.fs.length g, .slice R x.e.ps.length r, .int .i64 x.at_] : Array Value)[j]?) ∧ Fr (fun b => (Value.slice A L.length c).ownBlock ≠ some b) w wr ∧ w.heap.size + 1 ≤ wr.heap.size)) (fun ii _ => L.length - (vInt ii).toNat)
  case atStart => exact ⟨0, Nat.zero_le _, by first | rfl | go_num, Lib.hid ⟨HI0.out, k1.cell, Fr.below b1, by omega⟩⟩
  case round =>
    obtain ⟨i, hi, rfl, hR⟩ := hrel
    clear HI0
    by_cases hlt : i < L.length
    · have hil : (i : Int) < (L.length : Int) := by omega
      obtain ⟨hJ, hbx, hFr, hzr⟩ := hR.out
      obtain ⟨L1, hV, hO, hs1, hl1, hB1⟩ := hJ
      have hl1' : L1.length = L.length := by simpa using hl1
      have hlt1 : i < L1.length := by omega
      obtain ⟨gb, hA, hgB, hgl, c0, c1, c2, hfz⟩ := leds_at hO hlt1
      subst hA
      have hgbl := HGl.out gb rfl
      have hyv : L1[i].v = L[i].v := by
        have h1 := joinV_get (L0 := L.map LedD.v) (x := x) (i := i) (by simpa using hlt)
        rw [← hV, List.getElem?_map, List.getElem?_eq_getElem hlt1] at h1
        simpa using h1
      have hwb : witB L1[i].v.e x = true := by rw [hyv]; exact HL0.out i hlt
      have HEq := Lib.hid (hO.eqAt hs1 hlt1)
      have HXe : Hid (∀ W', Below wr.heap.size wr W' → EqAt W' W'.heap.size G R x.e) := Lib.hid (fun W' hb => ⟨((HxF.out.1.move (Fr.below (Below.refl _ _) |>.trans hFr)).move (Fr.below hb)).flat, ((HxF.out.2.move hFr).move (Fr.below hb)).flat, hxs.1, hxs.2⟩)
      have HPut := Lib.hid (fun (w2 : World) (hb : Below wr.heap.size wr w2) (F P : Option Addr) (f p : Nat) (hF : FlatP 2 frcC w2 (fun b => wr.heap.size ≤ b) F (witE L1[i].v.e x).fs) (hP : FlatP 2 frcC w2 (fun b => wr.heap.size ≤ b) P (witE L1[i].v.e x).ps) => leds_put hO hlt1 hb hF hP (f := f) (p := p))
      have HWl := Lib.hid (wit_len hwb)
      have HSm := Lib.hid (hs1 _ (List.getElem_mem hlt1))
      have HW := Lib.hid (fun (W' : World) (hb : Below wr.heap.size wr W') => without_any L1[i].v.e L1[i].F L1[i].P L1[i].f L1[i].p x G R g r W' (HEq.out.later hb) (HXe.out W' hb) hwb)
      have HSet : Hid ((L1.map LedD.v).set i ⟨witE L1[i].v.e x, L1[i].v.at_⟩ = joinV (L.map LedD.v) x (i + 1)) := Lib.hid (by
        rw [hV, hyv]
        have h1 := joinV_set (L0 := L.map LedD.v) (x := x) (i := i) (by simpa using hlt)
        simpa using h1)
      have HAt : Hid (∀ W', Below wr.heap.size wr W' → W'.cell? ⟨gb, i * 3, none⟩ = some (.slice L1[i].F L1[i].v.e.fs.length L1[i].f) ∧ W'.cell? ⟨gb, i * 3 + 1, none⟩ = some (.slice L1[i].P L1[i].v.e.ps.length L1[i].p) ∧ ∀ k, W'.frozen? ⟨gb, k, none⟩ = false) := Lib.hid (fun W' hb => by
        obtain ⟨g2, h0, _, _, h1, h2, _, h4⟩ := leds_at (hO.later hb) hlt1
        simp only [Option.some.injEq, Addr.mk.injEq, and_true] at h0
        subst h0
        exact ⟨h1, h2, h4⟩)
      have HFr := Lib.hid hFr
      have HB1 := Lib.hid hB1
      have HS1 := Lib.hid hs1
      clear hV hO hs1 hFr hB1 hR hyv hwb hl1
      generalize hyy : L1[i] = y at *
      generalize hv : witE y.v.e x = v at *
      have hbxA := ((Below.refl wr.heap.size wr).alloc (Nat.le_refl _) (.cells #[.slice y.F y.v.e.fs.length y.f, .slice y.P y.v.e.ps.length y.p, .int .i64 y.v.at_] 116))
      have kb := Blk.new wr #[.slice y.F y.v.e.fs.length y.f, .slice y.P y.v.e.ps.length y.p, .int .i64 y.v.at_] 116
      have hbx' : ∀ j, (wr.alloc (.cells #[.slice y.F y.v.e.fs.length y.f, .slice y.P y.v.e.ps.length y.p, .int .i64 y.v.at_] 116)).cell? ⟨w.heap.size, j, none⟩ = (#[.slice G x.e.fs.length g, .slice R x.e.ps.length r, .int .i64 x.at_] : Array Value)[j]? := fun j => (hbxA.cell (p := ⟨w.heap.size, j, none⟩) (by show w.heap.size < wr.heap.size; omega)).trans (hbx j)
      go_upto_region 4 with fail
      generalize hW4 : wr.alloc (.cells #[.slice y.F y.v.e.fs.length y.f, .slice y.P y.v.e.ps.length y.p, .int .i64 y.v.at_] 116) = W4 at *
      have gb4 := kb.lt
      have hz4 : W4.heap.size = wr.heap.size + 1 := by subst hW4; simp
      clear hW4 c0 c1 c2
      have kbc := kb.cell
      go_wp2_with (go_at_call 101; (with_reducible refine (HW.out _ hbxA).mono ?_); rintro en w5 ⟨A5, a5, A6, a6, rfl, hf5, h5⟩; have HF5 := hf5; have e5 := hbxA.trans (h5.mono (by omega)); obtain ⟨s0, s1, s2⟩ := HAt.out w5 e5)
      go_roundw
      case rel =>
        have hput := HPut.out w5 e5 A5 A6 a5 a6 (HF5.out.1.imp (fun b _ h => by omega)) (HF5.out.2.imp (fun b _ h => by omega))
        refine ⟨i + 1, by omega, by go_num, Lib.hid ⟨⟨_, ?h1, hput, ?h2, ?h3, ?h4⟩, ?h5, ?h6, ?h7⟩⟩
        case h1 => rw [List.map_set]; exact HSet.out
        case h2 =>
          intro z hz
          rcases List.mem_or_eq_of_mem_set hz with h3 | h3
          · exact HS1.out z h3
          · subst h3
            have h1 := HWl.out
            have h2 := HSm.out
            exact ⟨by show v.fs.length ≤ 1000; omega, by show v.ps.length ≤ 1000; omega⟩
        case h3 => rw [List.length_set, List.length_map]; exact hl1'
        case h4 => exact ((HB1.out.trans (e5.mono (by have := HB1.out.size; omega))).setCell (by show B ≤ gb; exact hgB) _).setCell (by show B ≤ gb; exact hgB) _
        case h5 => exact fun j => (World.cell?_setCell_other _ _ _ _ (fun e => by first | (simp at e; done) | (simp at e; omega))).trans ((World.cell?_setCell_other _ _ _ _ (fun e => by first | (simp at e; done) | (simp at e; omega))).trans ((e5.cell (p := ⟨w.heap.size, j, none⟩) (by show w.heap.size < wr.heap.size; omega)).trans (hbx j)))
        case h6 => exact ((HFr.out.trans (Fr.below e5)).trans (Fr.set (p := ⟨gb, i * 3, none⟩) (fun e => e rfl) _)).trans (Fr.set (p := ⟨gb, i * 3 + 1, none⟩) (fun e => e rfl) _)
        case h7 => have := e5.size; simp; omega
      case measure => simp [vInt]; omega
    · have hil : ¬ (i : Int) < (L.length : Int) := by omega
      obtain rfl : i = L.length := by omega
      obtain ⟨hJ, hbx, hFr, hzr⟩ := hR.out
      obtain ⟨L1, hV, hO, hs1, hl1, hB1⟩ := hJ
      have hl1' : L1.length = L.length := by simpa using hl1
      have hbA := (Below.refl wr.heap.size wr).alloc (Nat.le_refl _) (.cells #[.slice G x.e.fs.length g, .slice R x.e.ps.length r, .int .i64 x.at_] 116)
      have HO := Lib.hid (hO.later hbA)
      have hown0 : (wr.alloc (.cells #[.slice G x.e.fs.length g, .slice R x.e.ps.length r, .int .i64 x.at_] 116)).ownsRow B 116 3 (.slice A L.length c) L.length (L1.flatMap ledC) := by have := HO.out.1; rwa [hl1'] at this
      have HX : Hid (EqF (wr.alloc (.cells #[.slice G x.e.fs.length g, .slice R x.e.ps.length r, .int .i64 x.at_] 116)) (fun b => (Value.slice A L1.length c).ownBlock ≠ some b) ⟨x, G, g, R, r⟩) := Lib.hid (by
        rw [hl1']
        exact ⟨(HxF.out.1.move hFr).move (Fr.below hbA), (HxF.out.2.move hFr).move (Fr.below hbA)⟩)
      have HV : Hid ((L1 ++ [(⟨x, G, g, R, r⟩ : LedD)]).map LedD.v = joinL (L.map LedD.v) x) := Lib.hid (by
        rw [List.map_append, hV]
        have := joinV_all (L0 := L.map LedD.v) (x := x)
        rw [List.length_map] at this
        exact this)
      have HS : Hid (smallL (L1 ++ [⟨x, G, g, R, r⟩])) := Lib.hid (fun z hz => by
        rw [List.mem_append] at hz
        rcases hz with h1 | h1
        · exact hs1 z h1
        · rw [List.mem_singleton] at h1; subst h1; exact hxs)
      have HB := Lib.hid (hB1.trans (hbA.mono (Nat.le_trans hB (by omega))))
      have HNew := Lib.hid (led_new wr ⟨x, G, g, R, r⟩ 116)
      have hBr := Nat.le_trans hB (by omega : w.heap.size ≤ wr.heap.size)
      clear hV hO hs1 hFr hB1 hR hbA
      go_wp2_with (at_builtin; refine wpList_append_opt rfl _ _ 77 rfl B 116 i6 _ 3 56 Tryz.underlying77 hi6 hq0 hq1 hq2 rfl (by decide) _ _ _ rfl hown0 (some ⟨wr.heap.size, 0, none⟩) 1 1 (ledC ⟨x, G, g, R, r⟩) rfl (fun e => by cases e) rfl (fun ad e => by cases e; exact HNew.out) (ledC_one _) (by unfold maxLen; omega) (by omega) (by simp; omega) ?_; intro v' w3 hown3 hg3 hor3; obtain ⟨A', c', rfl⟩ := own_slice hown3)
      go_ret
      have hsn := leds_snoc (A' := A') (c' := c') HO.out HX.out (by rw [hl1']; exact hg3) (by rw [hl1']; exact hor3.imp id (fun e => ⟨_, e, Nat.le_refl _⟩)) (by rw [hl1']; exact hown3)
      exact ⟨A', c', L1 ++ [⟨x, G, g, R, r⟩], by rw [List.length_append, hl1']; rfl, HV.out, Lib.hid ⟨hsn, HS.out⟩, HB.out.grown hg3 (by simp; omega) (fun k e => (hown0.lt k e).1)⟩
end Go.Proofs.YtbkekdbabkncfaaGreat

namespace Go.Proofs.YtbkekdbabkncfaaGreat
open Go.RowKit Go.Maps

/-- Those who are led, in memory. -/
structure LedsAt (w : World) (A : Option Addr) (L : List LedD) : Prop where
  row : Flat 3 ledC w w.heap.size A L
  each : ∀ x ∈ L, EqAt w w.heap.size x.F x.P x.v.e
theorem LedsAt.later {w w' : World} {A : Option Addr} {L : List LedD} (h : LedsAt w A L) (hb : Below w.heap.size w w') : LedsAt w' A L := ⟨h.row.later hb, fun x hx => (h.each x hx).later hb⟩
theorem LedsOwn.at {B : Nat} {w : World} {A : Option Addr} {c : Nat} {L : List LedD} (h : LedsOwn B w A c L) (hs : smallL L) : LedsAt w A L :=
  ⟨Flat.of_own (c := c) ledC_len (by decide) h.1, fun x hx => ⟨(h.2 x hx).1.flat, (h.2 x hx).2.flat, (hs x hx).1, (hs x hx).2⟩⟩
theorem led_at {w : World} {A : Option Addr} {L : List LedD} (h : LedsAt w A L) {k : Nat} (hk : k < L.length) : ∃ b off, A = some ⟨b, off, none⟩ ∧ b < w.heap.size ∧ w.cell? ⟨b, off + k * 3, none⟩ = some (.slice L[k].F L[k].v.e.fs.length L[k].f) ∧ w.cell? ⟨b, off + k * 3 + 1, none⟩ = some (.slice L[k].P L[k].v.e.ps.length L[k].p) ∧ w.cell? ⟨b, off + k * 3 + 2, none⟩ = some (.int .i64 L[k].v.at_) := by
  obtain ⟨b, off, e, h1, h2⟩ := h.row k hk
  exact ⟨b, off, e, h1, h2 0 (by omega), h2 1 (by omega), h2 2 (by omega)⟩
/-- Where the equation of a subject is. -/
def fndL (ls : List Led) (a : Nat) : Option Nat := (List.range ls.length).find? fun i => decide ((ls.getD i ⟨⟨[], []⟩, 0⟩).at_ = a)
theorem fndL_some {ls : List Led} {a i : Nat} (hi : i < ls.length) (h : ls[i].at_ = a) (hn : ∀ j, (hj : j < ls.length) → j < i → ls[j].at_ ≠ a) : fndL ls a = some i := by
  unfold fndL
  rw [List.find?_range_eq_some]
  refine ⟨by rw [getD_lt ls _ hi]; simpa using h, by simpa using hi, fun j hj => ?_⟩
  rw [getD_lt ls _ (by omega : j < ls.length)]
  simpa using hn j (by omega) hj
theorem fndL_none {ls : List Led} {a : Nat} (hn : ∀ j, (hj : j < ls.length) → ls[j].at_ ≠ a) : fndL ls a = none := by
  unfold fndL
  rw [List.find?_eq_none]
  intro j hj
  rw [List.mem_range] at hj
  rw [getD_lt ls _ hj]
  simpa using hn j hj

set_option maxRecDepth 100000 in
set_option maxHeartbeats 4000000 in
theorem lead1_any (x : LedD) (a pa : Nat) (W : World) (hk : W.cell? ⟨pa, 0, none⟩ = some (.int .i64 a)) (hpa : pa < W.heap.size) :
    Calls Tryz.prog 94 #[.agg #[.slice x.F x.v.e.fs.length x.f, .slice x.P x.v.e.ps.length x.p, .int .i64 x.v.at_], .pointer (some ⟨pa, 0, none⟩)] W fun e w' => e = .returned (.bool (decide (x.v.at_ = a))) ∧ Below W.heap.size W w' := by
  have b1 := (Below.refl W.heap.size W).alloc (Nat.le_refl _) (.cells #[.slice x.F x.v.e.fs.length x.f, .slice x.P x.v.e.ps.length x.p, .int .i64 x.v.at_] 116)
  have k1 := (Blk.new W #[.slice x.F x.v.e.fs.length x.f, .slice x.P x.v.e.ps.length x.p, .int .i64 x.v.at_] 116).cell
  have hk1 := (b1.cell (p := ⟨pa, 0, none⟩) hpa).trans hk
  have he : decide (x.v.at_ = a) = ((x.v.at_ : Int) == (a : Int)) := by
    by_cases h : x.v.at_ = a
    · simp [h]
    · have : ¬ (x.v.at_ : Int) = (a : Int) := by omega
      simp [h, this]
  rw [he]
  go_enter Tryz.func94, Tryz.ntmps94
  go_wp2
  go_ret
  exact ⟨by first | rfl | simp, by first | exact b1 | exact b1.drew⟩

set_option maxRecDepth 100000 in
set_option maxHeartbeats 8000000 in
theorem findL_any (L : List LedD) (A : Option Addr) (c a pa : Nat) (w : World) (h : LedsAt w A L) (hl : L.length ≤ 1000) (hk : w.cell? ⟨pa, 0, none⟩ = some (.int .i64 a)) (hpa : pa < w.heap.size) :
    Calls Tryz.prog 93 #[.slice A L.length c, .int .i64 0, .func (.func 94) #[] #[.pointer (some ⟨pa, 0, none⟩)]] w fun e w' => e = .returned (.tuple #[.int .i64 ((fndL (L.map LedD.v) a).getD 0 : Nat), .bool (fndL (L.map LedD.v) a).isSome]) ∧ Below w.heap.size w w' := by
  have HS := Lib.hid (fun x W (hb : Below w.heap.size w W) => lead1_any x a pa W ((hb.cell (p := ⟨pa, 0, none⟩) hpa).trans hk) (Nat.lt_of_lt_of_le hpa hb.size))
  have HH := Lib.hid h
  clear h hk
  go_enter Tryz.func93, Tryz.ntmps93
  go_wp2_with fail
  go_loopw [8] (fun ii wr => ∃ i : Nat, i ≤ L.length ∧ ii = .int .i64 i ∧ Hid ((∀ j, (hj : j < L.length) → j < i → L[j].v.at_ ≠ a) ∧ Below w.heap.size w wr)) (fun ii _ => L.length - (vInt ii).toNat)
  case atStart => exact ⟨0, Nat.zero_le _, by first | rfl | go_num, Lib.hid ⟨fun j _ h1 => by omega, Below.refl _ _⟩⟩
  case round =>
    obtain ⟨i, hi, rfl, hR⟩ := hrel
    obtain ⟨hall, hB⟩ := hR.out
    clear hR
    by_cases hlt : i < L.length
    · have hil : (i : Int) < (L.length : Int) := by omega
      obtain ⟨b, off, rfl, hbb, c0, c1, c2⟩ := led_at (HH.out.later hB) hlt
      have HF : Hid (decide (L[i].v.at_ = a) = true → fndL (L.map LedD.v) a = some i) := Lib.hid (fun e => fndL_some (by simpa using hlt) (by simpa using e) (fun j hj h1 => by rw [List.getElem_map]; exact hall j (by simpa using hj) h1))
      have HN : Hid (decide (L[i].v.at_ = a) = false → ∀ j, (hj : j < L.length) → j < i + 1 → L[j].v.at_ ≠ a) := Lib.hid (fun e j hj h1 => by
        by_cases hji : j = i
        · subst hji; simpa using e
        · exact hall j hj (by omega))
      have HSi := Lib.hid (HS.out L[i] wr hB)
      generalize hp : decide (L[i].v.at_ = a) = p at *
      clear hp hall
      generalize L[i] = y at *
      cases p with
      | true =>
        have HR := Lib.hid (HF.out rfl)
        clear HF HN
        go_wp2_with (go_at_call 94; (with_reducible refine (HSi.out).mono ?_); rintro e w2 ⟨rfl, h2⟩)
        show bodyPost _ _ _ _ _ _
        exact bodyPost_ret (v := .tuple #[.int .i64 i, .bool true]) (by simp [results, Tryz.results93, go_sem]) rfl ⟨by rw [HR.out]; rfl, hB.trans (h2.mono hB.size)⟩
      | false =>
        have HR := Lib.hid (HN.out rfl)
        clear HF HN
        go_wp2_with (go_at_call 94; (with_reducible refine (HSi.out).mono ?_); rintro e w2 ⟨rfl, h2⟩)
        go_roundw
        case rel => exact ⟨i + 1, by omega, by go_num, Lib.hid ⟨HR.out, hB.trans (h2.mono hB.size)⟩⟩
        case measure => simp [vInt]; omega
    · have hil : ¬ (i : Int) < (L.length : Int) := by omega
      have HR : Hid (fndL (L.map LedD.v) a = none) := Lib.hid (fndL_none (fun j hj => by rw [List.getElem_map]; exact hall j (by simpa using hj) (Nat.lt_of_lt_of_le (by simpa using hj : j < L.length) (by omega))))
      clear hall
      go_wp2_with fail
      show bodyPost _ _ _ _ _ _
      exact bodyPost_ret (v := .tuple #[.int .i64 0, .bool false]) (by simp [results, Tryz.results93, go_sem]) rfl ⟨by rw [HR.out]; rfl, hB⟩

set_option maxRecDepth 100000 in
set_option maxHeartbeats 8000000 in
theorem auditLead_any (I : Option Addr) (n c m : Nat) (L : List LedD) (A : Option Addr) (d a : Nat) (w : World) (h : LedsAt w A L) (hl : L.length ≤ 1000) :
    Calls Tryz.prog 66 #[.agg #[.slice I n c, .map (some m), .slice A L.length d], .int .i64 a] w fun e w' => (match fndL (L.map LedD.v) a with | none => e = .returned (.tuple #[.agg #[.slice none 0 0, .slice none 0 0, .int .i64 0], .bool false]) | some i => ∃ x, L[i]? = some x ∧ e = .returned (.tuple #[.agg #[.slice x.F x.v.e.fs.length x.f, .slice x.P x.v.e.ps.length x.p, .int .i64 x.v.at_], .bool true])) ∧ Below w.heap.size w w' := by
  have b3 := (((Below.refl w.heap.size w).alloc (Nat.le_refl _) (.cells #[.slice I n c, .map (some m), .slice A L.length d] 79)).alloc (by simp) (.cells #[.int .i64 a] 3)).alloc (by simp; omega) (.cells #[.slice none 0 0, .slice none 0 0, .int .i64 0] 116)
  have k1 := ((Blk.new w #[.slice I n c, .map (some m), .slice A L.length d] 79).alloc (.cells #[.int .i64 a] 3)).alloc (.cells #[.slice none 0 0, .slice none 0 0, .int .i64 0] 116)
  have k2 := (newAt' (w.alloc (.cells #[.slice I n c, .map (some m), .slice A L.length d] 79)) #[.int .i64 a] 3 (g := w.heap.size + 1) (by simp)).alloc (.cells #[.slice none 0 0, .slice none 0 0, .int .i64 0] 116)
  have k3 := newAt' ((w.alloc (.cells #[.slice I n c, .map (some m), .slice A L.length d] 79)).alloc (.cells #[.int .i64 a] 3)) #[.slice none 0 0, .slice none 0 0, .int .i64 0] 116 (g := w.heap.size + 2) (by simp)
  have HF := Lib.hid (findL_any L A d a (w.heap.size + 1) _ (h.later b3) hl (k2.cell 0) k2.lt)
  have HAt := Lib.hid (fun W (hb : Below w.heap.size w W) i (hi : i < L.length) => led_at (h.later hb) hi)
  have HI : Hid (∀ i, fndL (L.map LedD.v) a = some i → i < L.length) := Lib.hid (fun i e => by
    unfold fndL at e
    rw [List.find?_range_eq_some] at e
    simpa using e.2.1)
  have k1c := k1.cell
  clear h
  generalize fndL (L.map LedD.v) a = q at *
  go_enter Tryz.func66, Tryz.ntmps66
  cases q with
  | none =>
    go_wp2_with (go_at_call 93; (with_reducible refine (HF.out).mono ?_); rintro e w4 ⟨rfl, h4⟩; have q3 := k3.below h4 k3.lt; have q3c := q3.cell; have q3f := q3.free; have b4 := b3.trans (h4.mono b3.size))
    refine bodyPost_ret (v := .tuple #[.agg #[.slice none 0 0, .slice none 0 0, .int .i64 0], .bool false]) ?hres rfl ?hpost
    case hres =>
      have r0 := (((q3.set 0 (.slice none 0 0)).set 1 (.slice none 0 0)).set 2 (.int .i64 0)).cell
      simp [results, Tryz.results66, go_sem, r0]
    case hpost => exact ⟨rfl, ((b4.setCell (p := ⟨w.heap.size + 2, 0, none⟩) (by simp) _).setCell (p := ⟨w.heap.size + 2, 1, none⟩) (by simp) _).setCell (p := ⟨w.heap.size + 2, 2, none⟩) (by simp) _⟩
  | some i =>
    have hi := HI.out i rfl
    have hil : (i : Int) < (L.length : Int) := by omega
    have hL : L[i]? = some L[i] := List.getElem?_eq_getElem hi
    generalize hx : L[i] = x at hL
    go_wp2_with (go_at_call 93; (with_reducible refine (HF.out).mono ?_); rintro e w4 ⟨rfl, h4⟩; have q3 := k3.below h4 k3.lt; have q1c := (k1.below h4 k1.lt).cell; have q3c := q3.cell; have q3f := q3.free; have b4 := b3.trans (h4.mono b3.size); obtain ⟨b, off, hA, hbb, c0, c1, c2⟩ := HAt.out w4 b4 i hi; subst hA; rw [hx] at c0 c1 c2)
    refine bodyPost_ret (v := .tuple #[.agg #[.slice x.F x.v.e.fs.length x.f, .slice x.P x.v.e.ps.length x.p, .int .i64 x.v.at_], .bool true]) ?hres rfl ?hpost
    case hres =>
      have r0 := (((q3.set 0 (.slice x.F x.v.e.fs.length x.f)).set 1 (.slice x.P x.v.e.ps.length x.p)).set 2 (.int .i64 x.v.at_)).cell
      simp [results, Tryz.results66, go_sem, r0]
    case hpost => exact ⟨by first | rfl | exact ⟨x, hL, rfl⟩, ((b4.setCell (p := ⟨w.heap.size + 2, 0, none⟩) (by simp) _).setCell (p := ⟨w.heap.size + 2, 1, none⟩) (by simp) _).setCell (p := ⟨w.heap.size + 2, 2, none⟩) (by simp) _⟩
end Go.Proofs.YtbkekdbabkncfaaGreat
