/- Equations, by the program. Written by v6.py. -/
import Derived.Test.YtbkekdbabkncfaaGreatVP5
import Derived.Deep.RegionHeld3

namespace Go.Proofs.YtbkekdbabkncfaaGreat
open Go.RowKit Go.Maps

/-- An equation's lists lie in memory. -/
structure EqAt (w : World) (B : Nat) (F P : Option Addr) (e : Eqn) : Prop where
  fs : FrcAt w B F e.fs
  ps : FrcAt w B P e.ps
  fl : e.fs.length ≤ 1000
  pl : e.ps.length ≤ 1000
theorem EqAt.later {w w' : World} {F P : Option Addr} {e : Eqn} (h : EqAt w w.heap.size F P e) (hb : Below w.heap.size w w') : EqAt w' w'.heap.size F P e := ⟨h.fs.later hb, h.ps.later hb, h.fl, h.pl⟩
/-- An equation in new memory. -/
def EqPost (w : World) (v : Eqn) (e : Ending) (w' : World) : Prop := ∃ F f P p, e = .returned (.agg #[.slice F v.fs.length f, .slice P v.ps.length p]) ∧ Hid (FlatP 2 frcC w' (fun b => w.heap.size ≤ b) F v.fs ∧ FlatP 2 frcC w' (fun b => w.heap.size ≤ b) P v.ps) ∧ Below w.heap.size w w'
def LedPost (w : World) (v : Led) (e : Ending) (w' : World) : Prop := ∃ F f P p, e = .returned (.agg #[.slice F v.e.fs.length f, .slice P v.e.ps.length p, .int .i64 v.at_]) ∧ Hid (FlatP 2 frcC w' (fun b => w.heap.size ≤ b) F v.e.fs ∧ FlatP 2 frcC w' (fun b => w.heap.size ≤ b) P v.e.ps) ∧ Below w.heap.size w w'
theorem two_lists {W4 w2 w3 wx : World} {A2 A3 : Option Addr} {l2 l3 : List Frc} {n2 n3 : Nat} (h2 : FlatP 2 frcC w2 (fun b => n2 ≤ b) A2 l2) (h3 : FlatP 2 frcC w3 (fun b => n3 ≤ b) A3 l3) (x : Below w2.heap.size w2 w3) (hn2 : W4.heap.size ≤ n2) (hn3 : W4.heap.size ≤ n3) (hF : Fr (fun b => W4.heap.size ≤ b) w3 wx) {B : Nat} (hB : B ≤ W4.heap.size) :
    FlatP 2 frcC wx (fun b => B ≤ b) A2 l2 ∧ FlatP 2 frcC wx (fun b => B ≤ b) A3 l3 :=
  ⟨(((h2.imp (Q := fun b => W4.heap.size ≤ b) (fun _ _ h => Nat.le_trans hn2 h)).move (Fr.below x)).move hF).imp (fun _ _ h => Nat.le_trans hB h), ((h3.imp (Q := fun b => W4.heap.size ≤ b) (fun _ _ h => Nat.le_trans hn3 h)).move hF).imp (fun _ _ h => Nat.le_trans hB h)⟩

theorem heldB {B : Nat} {V W : World} {P : Prop} (h : Below B V W ∧ P) : Below B V W := h.1
set_option maxRecDepth 100000 in
set_option maxHeartbeats 4000000 in
theorem isEmpty_any (e : Eqn) (F P : Option Addr) (f p : Nat) (w : World) (h : EqAt w w.heap.size F P e) :
    Calls Tryz.prog 102 #[.agg #[.slice F e.fs.length f, .slice P e.ps.length p]] w fun en w' => en = .returned (.bool (empE e)) ∧ Below w.heap.size w w' := by
  have b1 := (Below.refl w.heap.size w).alloc (Nat.le_refl _) (.cells #[.slice F e.fs.length f, .slice P e.ps.length p] 114)
  have k1c := (Blk.new w #[.slice F e.fs.length f, .slice P e.ps.length p] 114).cell
  have HF : Hid (∀ W', Below w.heap.size w W' → Calls Tryz.prog 95 #[.slice F e.fs.length f, .int .i64 0, .func (.func 96) #[] #[]] W' fun en w' => en = .returned (.tuple #[.int .i64 ((fndF e.fs 0).getD 0 : Nat), .bool (fndF e.fs 0).isSome]) ∧ Below W'.heap.size W' w') := Lib.hid (fun W' hb => findF_any e.fs F f 0 W' (h.fs.later hb) h.fl (by omega))
  have HE : Hid (empE e = !(fndF e.fs 0).isSome) := Lib.hid (by unfold empE; cases fndF e.fs 0 <;> rfl)
  clear h
  generalize empE e = R at *
  generalize (fndF e.fs 0).isSome = q at *
  generalize ((fndF e.fs 0).getD 0) = k at *
  go_enter Tryz.func102, Tryz.ntmps102
  go_wp2_with (go_at_call 95; (with_reducible refine (HF.out _ b1).mono ?_); rintro en w1 ⟨rfl, h1⟩)
  go_ret
  exact ⟨ret_bool HE.out.symm, b1.trans (h1.mono b1.size)⟩
set_option maxRecDepth 100000 in
set_option maxHeartbeats 4000000 in
theorem depends_any (l : Led) (G R : Option Addr) (g r : Nat) (w : World) (h : EqAt w w.heap.size G R l.e) (hat : l.at_ ≤ 1000) :
    Calls Tryz.prog 67 #[.agg #[.slice G l.e.fs.length g, .slice R l.e.ps.length r, .int .i64 l.at_]] w fun en w' => en = .returned (.tuple #[.int .i64 ((fndF l.e.fs (l.at_ + 1)).getD 0 : Nat), .bool (fndF l.e.fs (l.at_ + 1)).isSome]) ∧ Below w.heap.size w w' := by
  have b1 := (Below.refl w.heap.size w).alloc (Nat.le_refl _) (.cells #[.slice G l.e.fs.length g, .slice R l.e.ps.length r, .int .i64 l.at_] 116)
  have k1c := (Blk.new w #[.slice G l.e.fs.length g, .slice R l.e.ps.length r, .int .i64 l.at_] 116).cell
  have HF : Hid (∀ W', Below w.heap.size w W' → Calls Tryz.prog 95 #[.slice G l.e.fs.length g, .int .i64 ((l.at_ : Int) + 1), .func (.func 96) #[] #[]] W' fun en w' => en = .returned (.tuple #[.int .i64 ((fndF l.e.fs (l.at_ + 1)).getD 0 : Nat), .bool (fndF l.e.fs (l.at_ + 1)).isSome]) ∧ Below W'.heap.size W' w') := Lib.hid (fun W' hb => by
    have := findF_any l.e.fs G g (l.at_ + 1) W' (h.fs.later hb) h.fl (by omega)
    push_cast at this
    exact this)
  clear h
  generalize hq : (fndF l.e.fs (l.at_ + 1)).isSome = q at *
  generalize hkk : ((fndF l.e.fs (l.at_ + 1)).getD 0) = k at *
  have HQ := Lib.hid (And.intro hq hkk)
  clear hq hkk
  go_enter Tryz.func67, Tryz.ntmps67
  go_wp2_with (go_at_call 95; (with_reducible refine (HF.out _ b1).mono ?_); rintro en w1 ⟨rfl, h1⟩)
  show bodyPost _ _ _ _ _ _
  exact bodyPost_ret (v := .tuple #[.int .i64 k, .bool q]) (by simp [results, Tryz.results67, go_sem]) rfl ⟨by first | rfl | rw [HQ.out.1, HQ.out.2], b1.trans (h1.mono b1.size)⟩
set_option maxRecDepth 100000 in
set_option maxHeartbeats 8000000 in
theorem without_any (e : Eqn) (F P : Option Addr) (f p : Nat) (l : Led) (G R : Option Addr) (g r : Nat) (w : World) (h : EqAt w w.heap.size F P e) (hL : EqAt w w.heap.size G R l.e) (hb : witB e l = true) :
    Calls Tryz.prog 101 #[.agg #[.slice F e.fs.length f, .slice P e.ps.length p], .agg #[.slice G l.e.fs.length g, .slice R l.e.ps.length r, .int .i64 l.at_]] w (EqPost w (witE e l)) := by
  have hbb : l.at_ < e.fs.length ∧ lessB e.fs (e.fs.getD l.at_ default) l.e.fs = true ∧ lessB e.ps (e.fs.getD l.at_ default) l.e.ps = true := by
    unfold witB at hb
    simp only [Bool.and_eq_true, decide_eq_true_eq] at hb
    exact ⟨hb.1.1, hb.1.2, hb.2⟩
  obtain ⟨hat, hb1, hb2⟩ := hbb
  have b3 := (((Below.refl w.heap.size w).alloc (Nat.le_refl _) (.cells #[.slice F e.fs.length f, .slice P e.ps.length p] 114)).alloc (by simp) (.cells #[.slice G l.e.fs.length g, .slice R l.e.ps.length r, .int .i64 l.at_] 116)).alloc (by simp; omega) (.cells #[.slice none 0 0, .slice none 0 0] 114)
  have k1 := ((Blk.new w #[.slice F e.fs.length f, .slice P e.ps.length p] 114).alloc (.cells #[.slice G l.e.fs.length g, .slice R l.e.ps.length r, .int .i64 l.at_] 116)).alloc (.cells #[.slice none 0 0, .slice none 0 0] 114)
  have k2 := (newAt' (w.alloc (.cells #[.slice F e.fs.length f, .slice P e.ps.length p] 114)) #[.slice G l.e.fs.length g, .slice R l.e.ps.length r, .int .i64 l.at_] 116 (g := w.heap.size + 1) (by simp)).alloc (.cells #[.slice none 0 0, .slice none 0 0] 114)
  have k3 := newAt' ((w.alloc (.cells #[.slice F e.fs.length f, .slice P e.ps.length p] 114)).alloc (.cells #[.slice G l.e.fs.length g, .slice R l.e.ps.length r, .int .i64 l.at_] 116)) #[.slice none 0 0, .slice none 0 0] 114 (g := w.heap.size + 2) (by simp)
  obtain ⟨b, off, hF, hbl, c0, c1⟩ := frc_at (h.fs.later b3) hat
  subst hF
  have hx : e.fs.getD l.at_ default = e.fs[l.at_] := getD_lt _ _ hat
  rw [hx] at hb1 hb2
  have hE : witE e l = ⟨lessL e.fs e.fs[l.at_] l.e.fs, lessL e.ps e.fs[l.at_] l.e.ps⟩ := by unfold witE; rw [hx]
  have HL1 := Lib.hid (less_len (x := e.fs[l.at_]) (less_parts hb1).2.2.2.2)
  have HL2 := Lib.hid (less_len (x := e.fs[l.at_]) (less_parts hb2).2.2.2.2)
  have H1 := Lib.hid (fun (W' : World) (hb : Below w.heap.size w W') => less_any e.fs l.e.fs _ G f g e.fs[l.at_] W' (h.fs.later hb) (hL.fs.later hb) hL.fl hb1)
  have H2 := Lib.hid (fun (W' : World) (hb : Below w.heap.size w W') => less_any e.ps l.e.ps P R p r e.fs[l.at_] W' (h.ps.later hb) (hL.ps.later hb) hL.pl hb2)
  rw [hE]
  have hatl : (l.at_ : Int) < (e.fs.length : Int) := by omega
  have hatn : ((l.at_ : Int)).toNat = l.at_ := by omega
  clear hE hx h hL hb hb1 hb2
  generalize e.fs[l.at_] = x at *
  generalize hl1 : lessL e.fs x l.e.fs = v1 at *
  generalize hl2 : lessL e.ps x l.e.ps = v2 at *
  have HV := Lib.hid (And.intro hl1 hl2)
  clear hl1 hl2
  have k1c := k1.cell
  have k2c := k2.cell
  go_enter Tryz.func101, Tryz.ntmps101
  go_upto_region 2 with fail
  have b4 := b3.alloc b3.size (.cells #[.int .i64 x.n, .int .i64 x.d] 129)
  have q1 := k1.alloc (.cells #[.int .i64 x.n, .int .i64 x.d] 129)
  have q2 := k2.alloc (.cells #[.int .i64 x.n, .int .i64 x.d] 129)
  have q3 := k3.alloc (.cells #[.int .i64 x.n, .int .i64 x.d] 129)
  have q4 := newAt' (((w.alloc (.cells #[.slice (some ⟨b, off, none⟩) e.fs.length f, .slice P e.ps.length p] 114)).alloc (.cells #[.slice G l.e.fs.length g, .slice R l.e.ps.length r, .int .i64 l.at_] 116)).alloc (.cells #[.slice none 0 0, .slice none 0 0] 114)) #[.int .i64 x.n, .int .i64 x.d] 129 (g := w.heap.size + 3) (by simp)
  clear k1 k2 k3 k1c k2c c0 c1 b3
  generalize hW4 : (((w.alloc (.cells #[.slice (some ⟨b, off, none⟩) e.fs.length f, .slice P e.ps.length p] 114)).alloc (.cells #[.slice G l.e.fs.length g, .slice R l.e.ps.length r, .int .i64 l.at_] 116)).alloc (.cells #[.slice none 0 0, .slice none 0 0] 114)).alloc (.cells #[.int .i64 x.n, .int .i64 x.d] 129) = W4 at *
  clear hW4
  have l1 := q1.lt
  have l2 := q2.lt
  have l3 := q3.lt
  have l4 := q4.lt
  have q1c := q1.cell
  have q2c := q2.cell
  have q4c := q4.cell
  have D0 : Below W4.heap.size W4 W4.drew := (Below.refl _ _).drew
  have SK : ∀ W', Below W4.heap.size W4 W' → Below w.heap.size w W' ∧ (∀ i, W'.cell? ⟨w.heap.size, i, none⟩ = (#[.slice (some ⟨b, off, none⟩) e.fs.length f, .slice P e.ps.length p] : Array Value)[i]?) ∧ (∀ i, W'.cell? ⟨w.heap.size + 1, i, none⟩ = (#[.slice G l.e.fs.length g, .slice R l.e.ps.length r, .int .i64 l.at_] : Array Value)[i]?) ∧ (∀ i, W'.cell? ⟨w.heap.size + 3, i, none⟩ = (#[.int .i64 x.n, .int .i64 x.d] : Array Value)[i]?) := fun W' hW => ⟨b4.trans (hW.mono b4.size), (q1.below hW l1).cell, (q2.below hW l2).cell, (q4.below hW l4).cell⟩
  have SKs : ∀ (W' : World) (g2 i : Nat) (v : Value), g2 = w.heap.size + 2 → (Below w.heap.size w W' ∧ (∀ i, W'.cell? ⟨w.heap.size, i, none⟩ = (#[.slice (some ⟨b, off, none⟩) e.fs.length f, .slice P e.ps.length p] : Array Value)[i]?) ∧ (∀ i, W'.cell? ⟨w.heap.size + 1, i, none⟩ = (#[.slice G l.e.fs.length g, .slice R l.e.ps.length r, .int .i64 l.at_] : Array Value)[i]?) ∧ (∀ i, W'.cell? ⟨w.heap.size + 3, i, none⟩ = (#[.int .i64 x.n, .int .i64 x.d] : Array Value)[i]?)) → Below w.heap.size w (W'.setCell ⟨g2, i, none⟩ v) ∧ (∀ j, (W'.setCell ⟨g2, i, none⟩ v).cell? ⟨w.heap.size, j, none⟩ = (#[.slice (some ⟨b, off, none⟩) e.fs.length f, .slice P e.ps.length p] : Array Value)[j]?) ∧ (∀ j, (W'.setCell ⟨g2, i, none⟩ v).cell? ⟨w.heap.size + 1, j, none⟩ = (#[.slice G l.e.fs.length g, .slice R l.e.ps.length r, .int .i64 l.at_] : Array Value)[j]?) ∧ (∀ j, (W'.setCell ⟨g2, i, none⟩ v).cell? ⟨w.heap.size + 3, j, none⟩ = (#[.int .i64 x.n, .int .i64 x.d] : Array Value)[j]?) := fun W' g2 i v hg hS => ⟨hS.1.setCell (by simp; omega) v, fun j => (World.cell?_setCell_other _ _ _ _ (fun e => by first | (simp at e; done) | (simp at e; omega))).trans (hS.2.1 j), fun j => (World.cell?_setCell_other _ _ _ _ (fun e => by first | (simp at e; done) | (simp at e; omega))).trans (hS.2.2.1 j), fun j => (World.cell?_setCell_other _ _ _ _ (fun e => by first | (simp at e; done) | (simp at e; omega))).trans (hS.2.2.2 j)⟩
  go_region_held3 (fun W' => Below w.heap.size w W' ∧ (∀ i, W'.cell? ⟨w.heap.size, i, none⟩ = (#[.slice (some ⟨b, off, none⟩) e.fs.length f, .slice P e.ps.length p] : Array Value)[i]?) ∧ (∀ i, W'.cell? ⟨w.heap.size + 1, i, none⟩ = (#[.slice G l.e.fs.length g, .slice R l.e.ps.length r, .int .i64 l.at_] : Array Value)[i]?) ∧ (∀ i, W'.cell? ⟨w.heap.size + 3, i, none⟩ = (#[.int .i64 x.n, .int .i64 x.d] : Array Value)[i]?)) (first | with_reducible exact SK _ D0 | with_reducible exact SK _ d6 | with_reducible exact SK _ d5 | (with_reducible refine SKs _ _ _ _ (by omega) ?_; first | with_reducible exact SK _ d6 | (with_reducible refine SKs _ _ _ _ (by omega) ?_; with_reducible exact SK _ d6)))
    (first
      | (go_at_call 124; (with_reducible refine (H1.out _ ?_).mono ?_); exact heldB (by with_reducible assumption); rintro en w5 ⟨A5, a5, rfl, hf5, h5⟩; have HF5 := Lib.hid hf5; clear hf5; have d5 := D0.trans h5)
      | (go_at_call 124; (with_reducible refine (H2.out _ ?_).mono ?_); exact heldB (by with_reducible assumption); rintro en w6 ⟨A6, a6, rfl, hf6, h6⟩; have HF6 := Lib.hid hf6; clear hf6; have d6 := d5.trans (h6.mono d5.size); have s3 := q3.below d6 l3; have s3c := s3.cell; have s3f := s3.free; have b6 := b4.trans (d6.mono b4.size)))
  all_goals have r0 := ((s3.set 0 (.slice A5 v1.length a5)).set 1 (.slice A6 v2.length a6)).cell
  all_goals have hFr : Fr (fun b => W4.heap.size ≤ b) w6 ((w6.setCell ⟨w.heap.size + 2, 0, none⟩ (.slice A5 v1.length a5)).setCell ⟨w.heap.size + 2, 1, none⟩ (.slice A6 v2.length a6)) := (Fr.set (p := ⟨w.heap.size + 2, 0, none⟩) (fun e => by simp at e; omega) _).trans (Fr.set (p := ⟨w.heap.size + 2, 1, none⟩) (fun e => by simp at e; omega) _)
  all_goals have HTwo := Lib.hid (two_lists (W4 := W4) HF5.out HF6.out h6 (Nat.le_refl _) d5.size hFr (B := w.heap.size) (by omega))
  all_goals have b7 := (b6.setCell (p := ⟨w.heap.size + 2, 0, none⟩) (by simp) (.slice A5 v1.length a5)).setCell (p := ⟨w.heap.size + 2, 1, none⟩) (by simp) (.slice A6 v2.length a6)
  all_goals go_wp2_with fail
  all_goals refine bodyPost_ret (v := .agg #[.slice A5 v1.length a5, .slice A6 v2.length a6]) ?hres rfl ?hpost
  all_goals first
    | (simp [results, Tryz.results101, go_sem, r0]; done)
    | exact ⟨A5, a5, A6, a6, rfl, HTwo, b7⟩
set_option maxRecDepth 100000 in
set_option maxHeartbeats 8000000 in
theorem leadE_any (e : Eqn) (F P : Option Addr) (f p : Nat) (w : World) (h : EqAt w w.heap.size F P e) (hb : leadB e = true) :
    Calls Tryz.prog 104 #[.agg #[.slice F e.fs.length f, .slice P e.ps.length p]] w (LedPost w (leadE e)) := by
  obtain ⟨k, hk⟩ : ∃ k, fndF e.fs 0 = some k := by
    unfold leadB empE at hb
    cases hf : fndF e.fs 0 with
    | none => rw [hf] at hb; simp at hb
    | some k => exact ⟨k, rfl⟩
  have hbb : divB e.fs (e.fs.getD k default) = true ∧ divB e.ps (e.fs.getD k default) = true := by
    unfold leadB at hb
    rw [hk] at hb
    simp only [Bool.and_eq_true, Option.getD_some] at hb
    exact ⟨hb.1.2, hb.2⟩
  obtain ⟨hb1, hb2⟩ := hbb
  have hkl : k < e.fs.length := by
    unfold fndF at hk
    rw [List.find?_range_eq_some] at hk
    simpa using hk.2.1
  have hE : leadE e = ⟨⟨divL e.fs e.fs[k], divL e.ps e.fs[k]⟩, k⟩ := by
    unfold leadE
    rw [hk]
    simp only [Option.getD_some]
    rw [getD_lt _ _ hkl]
  rw [getD_lt _ _ hkl] at hb1 hb2
  have b2 := ((Below.refl w.heap.size w).alloc (Nat.le_refl _) (.cells #[.slice F e.fs.length f, .slice P e.ps.length p] 114)).alloc (by simp) (.cells #[.slice none 0 0, .slice none 0 0, .int .i64 0] 116)
  have k1 := (Blk.new w #[.slice F e.fs.length f, .slice P e.ps.length p] 114).alloc (.cells #[.slice none 0 0, .slice none 0 0, .int .i64 0] 116)
  have k2 := newAt' (w.alloc (.cells #[.slice F e.fs.length f, .slice P e.ps.length p] 114)) #[.slice none 0 0, .slice none 0 0, .int .i64 0] 116 (g := w.heap.size + 1) (by simp)
  have HFd : Hid (∀ W', Below w.heap.size w W' → Calls Tryz.prog 95 #[.slice F e.fs.length f, .int .i64 0, .func (.func 96) #[] #[]] W' fun en w' => en = .returned (.tuple #[.int .i64 (k : Nat), .bool true]) ∧ Below W'.heap.size W' w') := Lib.hid (fun W' hb => by
    have := findF_any e.fs F f 0 W' (h.fs.later hb) h.fl (by omega)
    rw [hk] at this
    exact this)
  have HAt := Lib.hid (fun (W' : World) (hb : Below w.heap.size w W') => frc_at (h.fs.later hb) hkl)
  have H1 := Lib.hid (fun (W' : World) (hb : Below w.heap.size w W') => divided_any e.fs F f e.fs[k] W' (h.fs.later hb) h.fl hb1)
  have H2 := Lib.hid (fun (W' : World) (hb : Below w.heap.size w W') => divided_any e.ps P p e.fs[k] W' (h.ps.later hb) h.pl hb2)
  rw [hE]
  have hatl : (k : Int) < (e.fs.length : Int) := by omega
  have hatn : ((k : Int)).toNat = k := by omega
  clear hE h hb hb1 hb2 hk
  generalize e.fs[k] = x at *
  generalize hl1 : divL e.fs x = v1 at *
  generalize hl2 : divL e.ps x = v2 at *
  have HV := Lib.hid (And.intro hl1 hl2)
  clear hl1 hl2
  have k1c := k1.cell
  have g1 := k1.lt
  have g2 := k2.lt
  go_enter Tryz.func104, Tryz.ntmps104
  go_upto_region 2 with (go_at_call 95; (with_reducible refine (HFd.out _ b2).mono ?_); rintro en w1 ⟨rfl, h1⟩; have b3 := b2.trans (h1.mono b2.size); have q1 := k1.below h1 g1; have q2 := k2.below h1 g2)
  clear k1 k2 k1c
  obtain ⟨b, off, hFe, hbl, c0, c1⟩ := HAt.out w1 b3
  subst hFe
  have q1c := q1.cell
  go_upto_region 3 with fail
  have b4 := b3.alloc b3.size (.cells #[.int .i64 x.n, .int .i64 x.d] 129)
  have p1 := q1.alloc (.cells #[.int .i64 x.n, .int .i64 x.d] 129)
  have p2 := q2.alloc (.cells #[.int .i64 x.n, .int .i64 x.d] 129)
  have p4 := Blk.new w1 #[.int .i64 x.n, .int .i64 x.d] 129
  clear q1 q2 q1c c0 c1 b3 HAt HFd
  generalize hW4 : w1.alloc (.cells #[.int .i64 x.n, .int .i64 x.d] 129) = W4 at *
  clear hW4
  have l1 := p1.lt
  have l2 := p2.lt
  have l4 := p4.lt
  have p1c := p1.cell
  have p4c := p4.cell
  have D0 : Below W4.heap.size W4 W4.drew := (Below.refl _ _).drew
  have hz1 : w.heap.size + 2 ≤ w1.heap.size := by have := h1.size; simpa using this
  have SK : ∀ W', Below W4.heap.size W4 W' → Below w.heap.size w (W') ∧ (∀ i, (W').cell? ⟨w.heap.size, i, none⟩ = (#[.slice (some ⟨b, off, none⟩) e.fs.length f, .slice P e.ps.length p] : Array Value)[i]?) ∧ (∀ i, (W').cell? ⟨w1.heap.size, i, none⟩ = (#[.int .i64 x.n, .int .i64 x.d] : Array Value)[i]?) := fun W' hW => ⟨b4.trans (hW.mono b4.size), (p1.below hW l1).cell, (p4.below hW l4).cell⟩
  have SKs : ∀ (W' : World) (g2 i : Nat) (v : Value), g2 = w.heap.size + 1 → (Below w.heap.size w (W') ∧ (∀ i, (W').cell? ⟨w.heap.size, i, none⟩ = (#[.slice (some ⟨b, off, none⟩) e.fs.length f, .slice P e.ps.length p] : Array Value)[i]?) ∧ (∀ i, (W').cell? ⟨w1.heap.size, i, none⟩ = (#[.int .i64 x.n, .int .i64 x.d] : Array Value)[i]?)) → Below w.heap.size w (W'.setCell ⟨g2, i, none⟩ v) ∧ (∀ j, (W'.setCell ⟨g2, i, none⟩ v).cell? ⟨w.heap.size, j, none⟩ = (#[.slice (some ⟨b, off, none⟩) e.fs.length f, .slice P e.ps.length p] : Array Value)[j]?) ∧ (∀ j, (W'.setCell ⟨g2, i, none⟩ v).cell? ⟨w1.heap.size, j, none⟩ = (#[.int .i64 x.n, .int .i64 x.d] : Array Value)[j]?) := fun W' g2 i v hg hS => ⟨hS.1.setCell (by simp; omega) v, fun j => (World.cell?_setCell_other _ _ _ _ (fun e => by first | (simp at e; done) | (simp at e; omega))).trans (hS.2.1 j), fun j => (World.cell?_setCell_other _ _ _ _ (fun e => by first | (simp at e; done) | (simp at e; omega))).trans (hS.2.2 j)⟩
  go_region_held3 (fun W' => Below w.heap.size w (W') ∧ (∀ i, (W').cell? ⟨w.heap.size, i, none⟩ = (#[.slice (some ⟨b, off, none⟩) e.fs.length f, .slice P e.ps.length p] : Array Value)[i]?) ∧ (∀ i, (W').cell? ⟨w1.heap.size, i, none⟩ = (#[.int .i64 x.n, .int .i64 x.d] : Array Value)[i]?)) (first | with_reducible exact SK _ D0 | with_reducible exact SK _ d6 | with_reducible exact SK _ d5 | (with_reducible refine SKs _ _ _ _ (by omega) ?_; first | with_reducible exact SK _ d6 | (with_reducible refine SKs _ _ _ _ (by omega) ?_; first | with_reducible exact SK _ d6 | (with_reducible refine SKs _ _ _ _ (by omega) ?_; with_reducible exact SK _ d6))))
    (first
      | (go_at_call 125; (with_reducible refine (H1.out _ ?_).mono ?_); exact heldB (by with_reducible assumption); rintro en w5 ⟨A5, a5, rfl, hf5, h5⟩; have HF5 := Lib.hid hf5; clear hf5; have d5 := D0.trans h5)
      | (go_at_call 125; (with_reducible refine (H2.out _ ?_).mono ?_); exact heldB (by with_reducible assumption); rintro en w6 ⟨A6, a6, rfl, hf6, h6⟩; have HF6 := Lib.hid hf6; clear hf6; have d6 := d5.trans (h6.mono d5.size); have s3 := p2.below d6 l2; have s3c := s3.cell; have s3f := s3.free; have b6 := b4.trans (d6.mono b4.size)))
  all_goals have r0 := (((s3.set 0 (.slice A5 v1.length a5)).set 1 (.slice A6 v2.length a6)).set 2 (.int .i64 k)).cell
  all_goals have hFr : Fr (fun b => W4.heap.size ≤ b) w6 (((w6.setCell ⟨w.heap.size + 1, 0, none⟩ (.slice A5 v1.length a5)).setCell ⟨w.heap.size + 1, 1, none⟩ (.slice A6 v2.length a6)).setCell ⟨w.heap.size + 1, 2, none⟩ (.int .i64 k)) := ((Fr.set (p := ⟨w.heap.size + 1, 0, none⟩) (fun e => by simp at e; omega) _).trans (Fr.set (p := ⟨w.heap.size + 1, 1, none⟩) (fun e => by simp at e; omega) _)).trans (Fr.set (p := ⟨w.heap.size + 1, 2, none⟩) (fun e => by simp at e; omega) _)
  all_goals have HTwo := Lib.hid (two_lists (W4 := W4) HF5.out HF6.out h6 (Nat.le_refl _) d5.size hFr (B := w.heap.size) (by omega))
  all_goals have b7 := ((b6.setCell (p := ⟨w.heap.size + 1, 0, none⟩) (by simp) (.slice A5 v1.length a5)).setCell (p := ⟨w.heap.size + 1, 1, none⟩) (by simp) (.slice A6 v2.length a6)).setCell (p := ⟨w.heap.size + 1, 2, none⟩) (by simp) (.int .i64 k)
  all_goals go_wp2_with fail
  all_goals refine bodyPost_ret (v := .agg #[.slice A5 v1.length a5, .slice A6 v2.length a6, .int .i64 k]) ?hres rfl ?hpost
  all_goals first
    | (simp [results, Tryz.results104, go_sem, r0]; done)
    | exact ⟨A5, a5, A6, a6, rfl, HTwo, b7⟩
end Go.Proofs.YtbkekdbabkncfaaGreat

namespace Go.Proofs.YtbkekdbabkncfaaGreat
open Go.RowKit Go.Maps

/-- The equation of one who is led, and where its lists are. -/
structure LedD where
  v : Led
  F : Option Addr
  f : Nat
  P : Option Addr
  p : Nat
instance : Inhabited LedD := ⟨⟨⟨⟨[], []⟩, 0⟩, none, 0, none, 0⟩⟩
def ledC (x : LedD) : List Value := [.slice x.F x.v.e.fs.length x.f, .slice x.P x.v.e.ps.length x.p, .int .i64 x.v.at_]
theorem ledC_len (x : LedD) : (ledC x).length = 3 := rfl
theorem ledC_one (x : LedD) : ∀ u ∈ ledC x, u.oneCell' = true := fun u hu => by
  simp only [ledC, List.mem_cons, List.not_mem_nil, or_false] at hu
  rcases hu with rfl | rfl | rfl <;> rfl
/-- The lists of an equation lie at blocks of a kind. -/
def EqF (w : World) (Q : Nat → Prop) (x : LedD) : Prop := FlatP 2 frcC w Q x.F x.v.e.fs ∧ FlatP 2 frcC w Q x.P x.v.e.ps
/-- A list of those who are led, that may be written. -/
def LedsOwn (B : Nat) (w : World) (A : Option Addr) (c : Nat) (L : List LedD) : Prop := w.ownsRow B 116 3 (.slice A L.length c) L.length (L.flatMap ledC) ∧ ∀ x ∈ L, EqF w (fun b => (Value.slice A L.length c).ownBlock ≠ some b) x
def smallL (L : List LedD) : Prop := ∀ x ∈ L, x.v.e.fs.length ≤ 1000 ∧ x.v.e.ps.length ≤ 1000
theorem LedsOwn.eqAt {B : Nat} {w : World} {A : Option Addr} {c : Nat} {L : List LedD} (h : LedsOwn B w A c L) (hs : smallL L) {i : Nat} (hi : i < L.length) : EqAt w w.heap.size L[i].F L[i].P L[i].v.e :=
  ⟨((h.2 _ (List.getElem_mem hi)).1).flat, ((h.2 _ (List.getElem_mem hi)).2).flat, (hs _ (List.getElem_mem hi)).1, (hs _ (List.getElem_mem hi)).2⟩
theorem LedsOwn.later {B : Nat} {w w' : World} {A : Option Addr} {c : Nat} {L : List LedD} (h : LedsOwn B w A c L) (hb : Below w.heap.size w w') : LedsOwn B w' A c L :=
  ⟨own_below h.1 hb, fun x hx => ⟨(h.2 x hx).1.move (Fr.below hb), (h.2 x hx).2.move (Fr.below hb)⟩⟩
/-- Both lists of number i are put. -/
theorem leds_put {B : Nat} {w w2 : World} {g c i : Nat} {L : List LedD} (h : LedsOwn B w (some ⟨g, 0, none⟩) c L) (hi : i < L.length) (hb : Below w.heap.size w w2) {v : Eqn} {F P : Option Addr} {f p : Nat} (hF : FlatP 2 frcC w2 (fun b => w.heap.size ≤ b) F v.fs) (hP : FlatP 2 frcC w2 (fun b => w.heap.size ≤ b) P v.ps) :
    LedsOwn B ((w2.setCell ⟨g, i * 3 + 0, none⟩ (.slice F v.fs.length f)).setCell ⟨g, i * 3 + 1, none⟩ (.slice P v.ps.length p)) (some ⟨g, 0, none⟩) c (L.set i ⟨⟨v, L[i].v.at_⟩, F, f, P, p⟩) := by
  have hgl := h.1.lt g rfl
  have ho := own_below h.1 hb
  have h1 := (ho.stored (i * 3 + 0) (.slice F v.fs.length f)).1
  rw [← flat_set ledC_len L i hi ⟨⟨⟨v.fs, L[i].v.e.ps⟩, L[i].v.at_⟩, F, f, L[i].P, L[i].p⟩ 0 (.slice F v.fs.length f) (by decide) rfl] at h1
  have h2 := (h1.stored (i * 3 + 1) (.slice P v.ps.length p)).1
  have hi2 : i < (L.set i ⟨⟨⟨v.fs, L[i].v.e.ps⟩, L[i].v.at_⟩, F, f, L[i].P, L[i].p⟩).length := by simpa using hi
  rw [← flat_set ledC_len (L.set i ⟨⟨⟨v.fs, L[i].v.e.ps⟩, L[i].v.at_⟩, F, f, L[i].P, L[i].p⟩) i hi2 ⟨⟨v, L[i].v.at_⟩, F, f, P, p⟩ 1 (.slice P v.ps.length p) (by decide) (by simp [ledC]), List.set_set] at h2
  have hS : Fr (fun b => g ≠ b) w2 ((w2.setCell ⟨g, i * 3 + 0, none⟩ (.slice F v.fs.length f)).setCell ⟨g, i * 3 + 1, none⟩ (.slice P v.ps.length p)) := (Fr.set (p := ⟨g, i * 3 + 0, none⟩) (fun e => e rfl) _).trans (Fr.set (p := ⟨g, i * 3 + 1, none⟩) (fun e => e rfl) _)
  refine ⟨by simpa using h2, fun x hx => ?_⟩
  simp only [List.length_set]
  rcases List.mem_or_eq_of_mem_set hx with h3 | h3
  · have := h.2 x h3
    exact ⟨(((this.1).move (Fr.below hb)).imp (Q := fun b => g ≠ b) (fun b _ h e => h (by simp [Value.ownBlock, e]))).move hS |>.imp (fun b _ h e => h (by simpa [Value.ownBlock] using e)), (((this.2).move (Fr.below hb)).imp (Q := fun b => g ≠ b) (fun b _ h e => h (by simp [Value.ownBlock, e]))).move hS |>.imp (fun b _ h e => h (by simpa [Value.ownBlock] using e))⟩
  · subst h3
    exact ⟨((hF.imp (Q := fun b => g ≠ b) (fun b _ h e => by omega)).move hS).imp (fun b _ h e => h (by simpa [Value.ownBlock] using e)), ((hP.imp (Q := fun b => g ≠ b) (fun b _ h e => by omega)).move hS).imp (fun b _ h e => h (by simpa [Value.ownBlock] using e))⟩
/-- Where the cells of number i are. -/
theorem leds_at {B : Nat} {w : World} {A : Option Addr} {c : Nat} {L : List LedD} (h : LedsOwn B w A c L) {i : Nat} (hi : i < L.length) : ∃ g, A = some ⟨g, 0, none⟩ ∧ B ≤ g ∧ g < w.heap.size ∧ w.cell? ⟨g, i * 3, none⟩ = some (.slice L[i].F L[i].v.e.fs.length L[i].f) ∧ w.cell? ⟨g, i * 3 + 1, none⟩ = some (.slice L[i].P L[i].v.e.ps.length L[i].p) ∧ w.cell? ⟨g, i * 3 + 2, none⟩ = some (.int .i64 L[i].v.at_) ∧ (∀ k, w.frozen? ⟨g, k, none⟩ = false) := by
  obtain ⟨g, cap, hv, hgb, hglt⟩ := h.1.form (by omega)
  simp only [Value.slice.injEq, true_and] at hv
  obtain ⟨rfl, rfl⟩ := hv
  have hl := flat_len ledC_len L
  exact ⟨g, rfl, hgb, hglt, (h.1.cellAt (i * 3 + 0) (by omega)).trans (flat_get ledC_len L i hi 0 (by decide)), (h.1.cellAt (i * 3 + 1) (by omega)).trans (flat_get ledC_len L i hi 1 (by decide)), (h.1.cellAt (i * 3 + 2) (by omega)).trans (flat_get ledC_len L i hi 2 (by decide)), fun k => h.1.frozenAt k⟩
end Go.Proofs.YtbkekdbabkncfaaGreat
