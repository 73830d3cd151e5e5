/- The chapter's examples that each statement asks for hold. -/
import Derived.Test.YtofckokjeiaphaaGreatAliveC
namespace Go.Proofs.YtofckokjeiaphaaGreat
open Go.RowKit

def MatAt (V : World) (cs : Array Value) (s5 s6 : Value) (W : World) : Prop := ∃ b, s5 = .pointer (some ⟨b, 0, none⟩) ∧ s6 = .int .i64 0 ∧ b < W.heap.size ∧ (∀ i, i < 5 → W.cell? ⟨b, i, none⟩ = cs[i]?) ∧ Below V.heap.size V W
theorem Blk.row5 {w : World} {g : Nat} {cs : Array Value} {t : TypeId} (h : Blk w g cs t) (hc : cs.size = 5) (v0 v1 v2 v3 v4 : Value) : Blk (((((w.setCell ⟨g, 0, none⟩ v0).setCell ⟨g, 1, none⟩ v1).setCell ⟨g, 2, none⟩ v2).setCell ⟨g, 3, none⟩ v3).setCell ⟨g, 4, none⟩ v4) g #[v0, v1, v2, v3, v4] t := by
  have hh := ((((h.set 0 v0).set 1 v1).set 2 v2).set 3 v3).set 4 v4
  have e : ((((((cs.setIfInBounds 0 v0).setIfInBounds 1 v1).setIfInBounds 2 v2).setIfInBounds 3 v3).setIfInBounds 4 v4) : Array Value) = #[v0, v1, v2, v3, v4] := by
    rcases cs with ⟨l⟩
    rcases l with _ | ⟨a0, _ | ⟨a1, _ | ⟨a2, _ | ⟨a3, _ | ⟨a4, _ | ⟨a5, l⟩⟩⟩⟩⟩⟩ <;> first | (simp at hc; done) | (simp at hc; omega) | simp
  rw [e] at hh
  exact hh
theorem Blk.row5Z {w : World} {g : Nat} {t : TypeId} (h : Blk w g #[.int .u8 0, .int .u8 0, .int .u8 0, .int .u8 0, .int .u8 0] t) (v0 v1 v2 v3 v4 : Value) : Blk (((((w.setCell ⟨g, 0, none⟩ v0).setCell ⟨g, 1, none⟩ v1).setCell ⟨g, 2, none⟩ v2).setCell ⟨g, 3, none⟩ v3).setCell ⟨g, 4, none⟩ v4) g #[v0, v1, v2, v3, v4] t := h.row5 rfl v0 v1 v2 v3 v4
theorem newAt' (w : World) (cs : Array Value) (t : TypeId) {g : Nat} (hg : g = w.heap.size) : Blk (w.alloc (.cells cs t)) g cs t := hg ▸ Blk.new w cs t
theorem rulesB2 {V X W : World} (h : Below X.heap.size X W) (hX : Below V.heap.size V X) : Below V.heap.size V W := hX.trans (h.mono hX.size)
theorem rulesB3 {V X W : World} {Q : Prop} (h : Below X.heap.size X W) (hX : Below V.heap.size V X ∧ Q) : Below V.heap.size V W := hX.1.trans (h.mono hX.1.size)
theorem PeopleAt.lateS {V W : World} {g : Nat} {x1 x2 x3 x4 x5 : RD} {Q : Prop} (h : PeopleAt V g x1 x2 x3 x4 x5) (hS : Below V.heap.size V W ∧ Q) : PeopleAt W g x1 x2 x3 x4 x5 := h.later hS.1

theorem heldB {B : Nat} {V W : World} {Q : Prop} (h : Below B V W ∧ Q) : Below B V W := h.1
theorem matAt_of {V W : World} {b : Nat} {t : TypeId} {cs : Array Value} (k : Blk W b cs t) (hb : Below V.heap.size V W) : MatAt V cs (.pointer (some ⟨b, 0, none⟩)) (.int .i64 0) W := ⟨b, rfl, rfl, k.lt, fun i _ => k.cell i, hb⟩
/-- The five cells of a found agreement. -/
def MatIn (W : World) (b : Nat) (cs : Array Value) : Prop := b < W.heap.size ∧ ∀ i, i < 5 → W.cell? ⟨b, i, none⟩ = cs[i]?
theorem MatIn.later {V W : World} {b : Nat} {cs : Array Value} (h : MatIn V b cs) (hb : Below V.heap.size V W) : MatIn W b cs := ⟨Nat.lt_of_lt_of_le h.1 hb.size, fun i hi => (hb.cell (p := ⟨b, i, none⟩) h.1).trans (h.2 i hi)⟩
def PairsAt (V : World) (s1 s2 s3 : Value) (W : World) : Prop := ∃ A4 c4 A5 c5, s1 = .slice A4 1 c4 ∧ s2 = .slice A5 2 c5 ∧ s3 = .int .i64 0 ∧ Prs W W.heap.size A4 [(1, 3)] ∧ Prs W W.heap.size A5 [(1, 2), (2, 3)] ∧ Below V.heap.size V W

set_option maxRecDepth 100000 in
set_option maxHeartbeats 8000000 in
theorem alive_any (w : World) : Calls Tryz.prog 19 #[] w fun e w' => e = .returned (.bool true) ∧ Below w.heap.size w w' := by
  have HP := Lib.hid (fun W => lawPeople_any W)
  have HE := Lib.hid (fun W => editsC W)
  have HR := Lib.hid (fun W => lawRules_any W)
  go_enter Tryz.func19, Tryz.ntmps19
  go_upto_region 3 with (first
    | (go_at_call 45; (with_reducible refine (HP.out _).mono ?_); rintro e w1 ⟨g, x1, x2, x3, x4, x5, rfl, hwho, hp1, h1⟩)
    | (go_at_call 25; (with_reducible refine (HE.out _).mono ?_); rintro e w2 ⟨rfl, h2⟩))
  have hpV := hp1.later h2
  have hbV := h1.trans (h2.mono h1.size)
  clear hp1 h1 h2 HP HE
  generalize w2 = V3 at *
  clear w1
  have SK : ∀ W, Below V3.heap.size V3 W → Below V3.heap.size V3 W ∧ (∀ i, W.cell? ⟨g, i, none⟩ = (#[.int .i64 x1.r.id, .slice x1.A x1.r.names.length x1.c, .int .u8 x1.r.suf, .int .i64 x1.r.lo, .int .i64 x1.r.hi, .string x1.r.num, .bool x1.r.twin, .slice x1.D x1.r.stays.length x1.d, .int .i64 x2.r.id, .slice x2.A x2.r.names.length x2.c, .int .u8 x2.r.suf, .int .i64 x2.r.lo, .int .i64 x2.r.hi, .string x2.r.num, .bool x2.r.twin, .slice x2.D x2.r.stays.length x2.d, .int .i64 x3.r.id, .slice x3.A x3.r.names.length x3.c, .int .u8 x3.r.suf, .int .i64 x3.r.lo, .int .i64 x3.r.hi, .string x3.r.num, .bool x3.r.twin, .slice x3.D x3.r.stays.length x3.d, .int .i64 x4.r.id, .slice x4.A x4.r.names.length x4.c, .int .u8 x4.r.suf, .int .i64 x4.r.lo, .int .i64 x4.r.hi, .string x4.r.num, .bool x4.r.twin, .slice x4.D x4.r.stays.length x4.d, .int .i64 x5.r.id, .slice x5.A x5.r.names.length x5.c, .int .u8 x5.r.suf, .int .i64 x5.r.lo, .int .i64 x5.r.hi, .string x5.r.num, .bool x5.r.twin, .slice x5.D x5.r.stays.length x5.d] : Array Value)[i]?) := fun W hW => ⟨hW, (hpV.later hW).blk.cell⟩
  have kP := hpV.blk.cell
  have dd0 : Below V3.heap.size V3 V3.drew := (Below.refl _ _).drew
  have HC := Lib.hid (fun W (hW : PeopleAt W g x1 x2 x3 x4 x5) => compC (x1 := x1) (x2 := x2) W (M := ⟨2, 2, 3, 3, 1⟩) (by rw [hwho.e1, hwho.e2]; exact cmpC2) (by rw [hwho.e1]; decide) (by rw [hwho.e2]; decide) (hW.recs x1 (by simp)).1 (hW.recs x2 (by simp)).1 (hW.recs x1 (by simp)).2 (hW.recs x2 (by simp)).2)
  dsimp only at HC
  go_cut [4, 5] (fun s5 s6 wx => MatAt V3 #[.int .u8 2, .int .u8 2, .int .u8 3, .int .u8 3, .int .u8 1] s5 s6 wx)
  case first =>
    go_region_held3 (fun W => Below V3.heap.size V3 W ∧ (∀ i, W.cell? ⟨g, i, none⟩ = (#[.int .i64 x1.r.id, .slice x1.A x1.r.names.length x1.c, .int .u8 x1.r.suf, .int .i64 x1.r.lo, .int .i64 x1.r.hi, .string x1.r.num, .bool x1.r.twin, .slice x1.D x1.r.stays.length x1.d, .int .i64 x2.r.id, .slice x2.A x2.r.names.length x2.c, .int .u8 x2.r.suf, .int .i64 x2.r.lo, .int .i64 x2.r.hi, .string x2.r.num, .bool x2.r.twin, .slice x2.D x2.r.stays.length x2.d, .int .i64 x3.r.id, .slice x3.A x3.r.names.length x3.c, .int .u8 x3.r.suf, .int .i64 x3.r.lo, .int .i64 x3.r.hi, .string x3.r.num, .bool x3.r.twin, .slice x3.D x3.r.stays.length x3.d, .int .i64 x4.r.id, .slice x4.A x4.r.names.length x4.c, .int .u8 x4.r.suf, .int .i64 x4.r.lo, .int .i64 x4.r.hi, .string x4.r.num, .bool x4.r.twin, .slice x4.D x4.r.stays.length x4.d, .int .i64 x5.r.id, .slice x5.A x5.r.names.length x5.c, .int .u8 x5.r.suf, .int .i64 x5.r.lo, .int .i64 x5.r.hi, .string x5.r.num, .bool x5.r.twin, .slice x5.D x5.r.stays.length x5.d] : Array Value)[i]?)) ((refine SK _ ?_; repeat (first | with_reducible assumption | with_reducible exact Below.refl _ _ | with_reducible refine Below.drew ?_ | with_reducible refine Below.alloc ?_ (by first | omega | (simp; done) | (simp; omega)) _ | with_reducible refine Below.setCell ?_ (by first | omega | (simp; done) | (simp; omega)) _)))
      (first
        | (go_at_call 46; (with_reducible refine (HR.out _).mono ?_); rintro e w1 ⟨rfl, h1⟩; have d1b := rulesB3 h1 (by with_reducible assumption); have hv1 := d1b.size; have hz1 := h1.size; (try (simp at hz1)); (try (have P1 := ((Blk.new V3 #[.int .u8 0, .int .u8 0, .int .u8 0, .int .u8 0, .int .u8 0] 54).drew).below h1 (by first | omega | (simp; done) | (simp; omega)); have P1c := P1.cell; have P1f := P1.free)); (try (have Q1 := fun hX => ((newAt' V3.drew #[.int .u8 0, .int .u8 0, .int .u8 0, .int .u8 0, .int .u8 0] 54 rfl)).below h1 hX)))
        | (go_at_call 23; (with_reducible refine (HC.out _ ?_).mono ?_); exact hpV.lateS (by with_reducible assumption); rintro e w2 ⟨rfl, h2⟩; have d2b := rulesB3 h2 (by with_reducible assumption); have hz2 := h2.size; (try (simp at hz2)); have hv2 := d2b.size; (try (have R1 := P1.below h2 (by first | omega | (simp; done) | (simp; omega)); have R1c := R1.cell; have R1f := R1.free)); (try (have R3 := (Blk.new w1 #[.int .u8 0, .int .u8 0, .int .u8 0, .int .u8 0, .int .u8 0] 54).below h2 (by first | omega | (simp; done) | (simp; omega)); have R3c := R3.cell; have R3f := R3.free))))
    all_goals first | (go_step; go_step; go_meet) | (go_step; go_meet) | go_meet
    all_goals (with_reducible refine matAt_of (t := 54) ?_ (heldB (by with_reducible assumption)))
    all_goals first | with_reducible exact Blk.new _ _ _ | with_reducible exact Blk.row5Z (by with_reducible assumption) _ _ _ _ _
  case rest =>
    obtain ⟨b2, rfl, rfl, l2, g2, hbc⟩ := hcut
    have G2 : Hid (MatIn wc b2 #[.int .u8 2, .int .u8 2, .int .u8 3, .int .u8 3, .int .u8 1]) := Lib.hid ⟨l2, g2⟩
    have hpW := hpV.later hbc
    have hbW := hbV.trans (hbc.mono hbV.size)
    clear hpV hbV hbc SK kP dd0 HC l2 g2
    have hpV := hpW
    have hbV := hbW
    clear hpW hbW
    generalize wc = V4 at *
    go_upto_region 4 with fail
    have SK : ∀ W, Below V4.heap.size V4 W → Below V4.heap.size V4 W ∧ (∀ i, W.cell? ⟨g, i, none⟩ = (#[.int .i64 x1.r.id, .slice x1.A x1.r.names.length x1.c, .int .u8 x1.r.suf, .int .i64 x1.r.lo, .int .i64 x1.r.hi, .string x1.r.num, .bool x1.r.twin, .slice x1.D x1.r.stays.length x1.d, .int .i64 x2.r.id, .slice x2.A x2.r.names.length x2.c, .int .u8 x2.r.suf, .int .i64 x2.r.lo, .int .i64 x2.r.hi, .string x2.r.num, .bool x2.r.twin, .slice x2.D x2.r.stays.length x2.d, .int .i64 x3.r.id, .slice x3.A x3.r.names.length x3.c, .int .u8 x3.r.suf, .int .i64 x3.r.lo, .int .i64 x3.r.hi, .string x3.r.num, .bool x3.r.twin, .slice x3.D x3.r.stays.length x3.d, .int .i64 x4.r.id, .slice x4.A x4.r.names.length x4.c, .int .u8 x4.r.suf, .int .i64 x4.r.lo, .int .i64 x4.r.hi, .string x4.r.num, .bool x4.r.twin, .slice x4.D x4.r.stays.length x4.d, .int .i64 x5.r.id, .slice x5.A x5.r.names.length x5.c, .int .u8 x5.r.suf, .int .i64 x5.r.lo, .int .i64 x5.r.hi, .string x5.r.num, .bool x5.r.twin, .slice x5.D x5.r.stays.length x5.d] : Array Value)[i]?) := fun W hW => ⟨hW, (hpV.later hW).blk.cell⟩
    have kP := hpV.blk.cell
    have dd0 : Below V4.heap.size V4 V4.drew := (Below.refl _ _).drew
    have HC := Lib.hid (fun W (hW : PeopleAt W g x1 x2 x3 x4 x5) => compC (x1 := x1) (x2 := x3) W (M := ⟨3, 1, 3, 3, 2⟩) (by rw [hwho.e1, hwho.e3]; exact cmpC3) (by rw [hwho.e1]; decide) (by rw [hwho.e3]; decide) (hW.recs x1 (by simp)).1 (hW.recs x3 (by simp)).1 (hW.recs x1 (by simp)).2 (hW.recs x3 (by simp)).2)
    dsimp only at HC
    go_cut [6, 7] (fun s5 s6 wx => MatAt V4 #[.int .u8 3, .int .u8 1, .int .u8 3, .int .u8 3, .int .u8 2] s5 s6 wx)
    case first =>
      go_region_held3 (fun W => Below V4.heap.size V4 W ∧ (∀ i, W.cell? ⟨g, i, none⟩ = (#[.int .i64 x1.r.id, .slice x1.A x1.r.names.length x1.c, .int .u8 x1.r.suf, .int .i64 x1.r.lo, .int .i64 x1.r.hi, .string x1.r.num, .bool x1.r.twin, .slice x1.D x1.r.stays.length x1.d, .int .i64 x2.r.id, .slice x2.A x2.r.names.length x2.c, .int .u8 x2.r.suf, .int .i64 x2.r.lo, .int .i64 x2.r.hi, .string x2.r.num, .bool x2.r.twin, .slice x2.D x2.r.stays.length x2.d, .int .i64 x3.r.id, .slice x3.A x3.r.names.length x3.c, .int .u8 x3.r.suf, .int .i64 x3.r.lo, .int .i64 x3.r.hi, .string x3.r.num, .bool x3.r.twin, .slice x3.D x3.r.stays.length x3.d, .int .i64 x4.r.id, .slice x4.A x4.r.names.length x4.c, .int .u8 x4.r.suf, .int .i64 x4.r.lo, .int .i64 x4.r.hi, .string x4.r.num, .bool x4.r.twin, .slice x4.D x4.r.stays.length x4.d, .int .i64 x5.r.id, .slice x5.A x5.r.names.length x5.c, .int .u8 x5.r.suf, .int .i64 x5.r.lo, .int .i64 x5.r.hi, .string x5.r.num, .bool x5.r.twin, .slice x5.D x5.r.stays.length x5.d] : Array Value)[i]?)) ((refine SK _ ?_; repeat (first | with_reducible assumption | with_reducible exact Below.refl _ _ | with_reducible refine Below.drew ?_ | with_reducible refine Below.alloc ?_ (by first | omega | (simp; done) | (simp; omega)) _ | with_reducible refine Below.setCell ?_ (by first | omega | (simp; done) | (simp; omega)) _)))
        (first
          | (go_at_call 46; (with_reducible refine (HR.out _).mono ?_); rintro e w1 ⟨rfl, h1⟩; have d1b := rulesB3 h1 (by with_reducible assumption); have hv1 := d1b.size; have hz1 := h1.size; (try (simp at hz1)); (try (have P1 := ((Blk.new V4 #[.int .u8 0, .int .u8 0, .int .u8 0, .int .u8 0, .int .u8 0] 54).drew).below h1 (by first | omega | (simp; done) | (simp; omega)); have P1c := P1.cell; have P1f := P1.free)); (try (have Q1 := fun hX => ((newAt' V4.drew #[.int .u8 0, .int .u8 0, .int .u8 0, .int .u8 0, .int .u8 0] 54 rfl)).below h1 hX)))
          | (go_at_call 23; (with_reducible refine (HC.out _ ?_).mono ?_); exact hpV.lateS (by with_reducible assumption); rintro e w2 ⟨rfl, h2⟩; have d2b := rulesB3 h2 (by with_reducible assumption); have hz2 := h2.size; (try (simp at hz2)); have hv2 := d2b.size; (try (have R1 := P1.below h2 (by first | omega | (simp; done) | (simp; omega)); have R1c := R1.cell; have R1f := R1.free)); (try (have R3 := (Blk.new w1 #[.int .u8 0, .int .u8 0, .int .u8 0, .int .u8 0, .int .u8 0] 54).below h2 (by first | omega | (simp; done) | (simp; omega)); have R3c := R3.cell; have R3f := R3.free))))
      all_goals first | (go_step; go_step; go_meet) | (go_step; go_meet) | go_meet
      all_goals (with_reducible refine matAt_of (t := 54) ?_ (heldB (by with_reducible assumption)))
      all_goals first | with_reducible exact Blk.new _ _ _ | with_reducible exact Blk.row5Z (by with_reducible assumption) _ _ _ _ _
    case rest =>
      obtain ⟨b3, rfl, rfl, l3, g3, hbc⟩ := hcut
      have G3 : Hid (MatIn wc b3 #[.int .u8 3, .int .u8 1, .int .u8 3, .int .u8 3, .int .u8 2]) := Lib.hid ⟨l3, g3⟩
      have G2' := Lib.hid (G2.out.later hbc)
      clear G2
      have G2 := G2'
      clear G2'
      have hpW := hpV.later hbc
      have hbW := hbV.trans (hbc.mono hbV.size)
      clear hpV hbV hbc SK kP dd0 HC l3 g3
      have hpV := hpW
      have hbV := hbW
      clear hpW hbW
      generalize wc = V5 at *
      go_upto_region 5 with fail
      have SK : ∀ W, Below V5.heap.size V5 W → Below V5.heap.size V5 W ∧ (∀ i, W.cell? ⟨g, i, none⟩ = (#[.int .i64 x1.r.id, .slice x1.A x1.r.names.length x1.c, .int .u8 x1.r.suf, .int .i64 x1.r.lo, .int .i64 x1.r.hi, .string x1.r.num, .bool x1.r.twin, .slice x1.D x1.r.stays.length x1.d, .int .i64 x2.r.id, .slice x2.A x2.r.names.length x2.c, .int .u8 x2.r.suf, .int .i64 x2.r.lo, .int .i64 x2.r.hi, .string x2.r.num, .bool x2.r.twin, .slice x2.D x2.r.stays.length x2.d, .int .i64 x3.r.id, .slice x3.A x3.r.names.length x3.c, .int .u8 x3.r.suf, .int .i64 x3.r.lo, .int .i64 x3.r.hi, .string x3.r.num, .bool x3.r.twin, .slice x3.D x3.r.stays.length x3.d, .int .i64 x4.r.id, .slice x4.A x4.r.names.length x4.c, .int .u8 x4.r.suf, .int .i64 x4.r.lo, .int .i64 x4.r.hi, .string x4.r.num, .bool x4.r.twin, .slice x4.D x4.r.stays.length x4.d, .int .i64 x5.r.id, .slice x5.A x5.r.names.length x5.c, .int .u8 x5.r.suf, .int .i64 x5.r.lo, .int .i64 x5.r.hi, .string x5.r.num, .bool x5.r.twin, .slice x5.D x5.r.stays.length x5.d] : Array Value)[i]?) := fun W hW => ⟨hW, (hpV.later hW).blk.cell⟩
      have kP := hpV.blk.cell
      have dd0 : Below V5.heap.size V5 V5.drew := (Below.refl _ _).drew
      have HC := Lib.hid (fun W (hW : PeopleAt W g x1 x2 x3 x4 x5) => compC (x1 := x1) (x2 := x4) W (M := ⟨3, 1, 0, 3, 0⟩) (by rw [hwho.e1, hwho.e4]; exact cmpC4) (by rw [hwho.e1]; decide) (by rw [hwho.e4]; decide) (hW.recs x1 (by simp)).1 (hW.recs x4 (by simp)).1 (hW.recs x1 (by simp)).2 (hW.recs x4 (by simp)).2)
      dsimp only at HC
      go_cut [8, 9] (fun s5 s6 wx => MatAt V5 #[.int .u8 3, .int .u8 1, .int .u8 0, .int .u8 3, .int .u8 0] s5 s6 wx)
      case first =>
        go_region_held3 (fun W => Below V5.heap.size V5 W ∧ (∀ i, W.cell? ⟨g, i, none⟩ = (#[.int .i64 x1.r.id, .slice x1.A x1.r.names.length x1.c, .int .u8 x1.r.suf, .int .i64 x1.r.lo, .int .i64 x1.r.hi, .string x1.r.num, .bool x1.r.twin, .slice x1.D x1.r.stays.length x1.d, .int .i64 x2.r.id, .slice x2.A x2.r.names.length x2.c, .int .u8 x2.r.suf, .int .i64 x2.r.lo, .int .i64 x2.r.hi, .string x2.r.num, .bool x2.r.twin, .slice x2.D x2.r.stays.length x2.d, .int .i64 x3.r.id, .slice x3.A x3.r.names.length x3.c, .int .u8 x3.r.suf, .int .i64 x3.r.lo, .int .i64 x3.r.hi, .string x3.r.num, .bool x3.r.twin, .slice x3.D x3.r.stays.length x3.d, .int .i64 x4.r.id, .slice x4.A x4.r.names.length x4.c, .int .u8 x4.r.suf, .int .i64 x4.r.lo, .int .i64 x4.r.hi, .string x4.r.num, .bool x4.r.twin, .slice x4.D x4.r.stays.length x4.d, .int .i64 x5.r.id, .slice x5.A x5.r.names.length x5.c, .int .u8 x5.r.suf, .int .i64 x5.r.lo, .int .i64 x5.r.hi, .string x5.r.num, .bool x5.r.twin, .slice x5.D x5.r.stays.length x5.d] : Array Value)[i]?)) ((refine SK _ ?_; repeat (first | with_reducible assumption | with_reducible exact Below.refl _ _ | with_reducible refine Below.drew ?_ | with_reducible refine Below.alloc ?_ (by first | omega | (simp; done) | (simp; omega)) _ | with_reducible refine Below.setCell ?_ (by first | omega | (simp; done) | (simp; omega)) _)))
          (first
            | (go_at_call 46; (with_reducible refine (HR.out _).mono ?_); rintro e w1 ⟨rfl, h1⟩; have d1b := rulesB3 h1 (by with_reducible assumption); have hv1 := d1b.size; have hz1 := h1.size; (try (simp at hz1)); (try (have P1 := ((Blk.new V5 #[.int .u8 0, .int .u8 0, .int .u8 0, .int .u8 0, .int .u8 0] 54).drew).below h1 (by first | omega | (simp; done) | (simp; omega)); have P1c := P1.cell; have P1f := P1.free)); (try (have Q1 := fun hX => ((newAt' V5.drew #[.int .u8 0, .int .u8 0, .int .u8 0, .int .u8 0, .int .u8 0] 54 rfl)).below h1 hX)))
            | (go_at_call 23; (with_reducible refine (HC.out _ ?_).mono ?_); exact hpV.lateS (by with_reducible assumption); rintro e w2 ⟨rfl, h2⟩; have d2b := rulesB3 h2 (by with_reducible assumption); have hz2 := h2.size; (try (simp at hz2)); have hv2 := d2b.size; (try (have R1 := P1.below h2 (by first | omega | (simp; done) | (simp; omega)); have R1c := R1.cell; have R1f := R1.free)); (try (have R3 := (Blk.new w1 #[.int .u8 0, .int .u8 0, .int .u8 0, .int .u8 0, .int .u8 0] 54).below h2 (by first | omega | (simp; done) | (simp; omega)); have R3c := R3.cell; have R3f := R3.free))))
        all_goals first | (go_step; go_step; go_meet) | (go_step; go_meet) | go_meet
        all_goals (with_reducible refine matAt_of (t := 54) ?_ (heldB (by with_reducible assumption)))
        all_goals first | with_reducible exact Blk.new _ _ _ | with_reducible exact Blk.row5Z (by with_reducible assumption) _ _ _ _ _
      case rest =>
        obtain ⟨b4, rfl, rfl, l4, g4, hbc⟩ := hcut
        have G4 : Hid (MatIn wc b4 #[.int .u8 3, .int .u8 1, .int .u8 0, .int .u8 3, .int .u8 0]) := Lib.hid ⟨l4, g4⟩
        have G2' := Lib.hid (G2.out.later hbc)
        clear G2
        have G2 := G2'
        clear G2'
        have G3' := Lib.hid (G3.out.later hbc)
        clear G3
        have G3 := G3'
        clear G3'
        have hpW := hpV.later hbc
        have hbW := hbV.trans (hbc.mono hbV.size)
        clear hpV hbV hbc SK kP dd0 HC l4 g4
        have hpV := hpW
        have hbV := hbW
        clear hpW hbW
        generalize wc = V6 at *
        go_upto_region 6 with fail
        have dd0 : Below V6.heap.size V6 V6.drew := (Below.refl _ _).drew
        have HPr := Lib.hid (fun W hW => pairsC W g (hpV.later hW).three hwho.e1 hwho.e2 hwho.e3)
        go_cut [10, 11, 12] (fun s10 s11 s12 wx => PairsAt V6 s10 s11 s12 wx)
        case first =>
          go_region_held3 (fun W => Below V6.heap.size V6 W) ((repeat (first | with_reducible assumption | with_reducible exact Below.refl _ _ | with_reducible refine Below.drew ?_)))
            (first
              | (go_at_call 46; (with_reducible refine (HR.out _).mono ?_); rintro e w1 ⟨rfl, h1⟩; have d1b := rulesB2 h1 (by with_reducible assumption))
              | (go_at_call 12; (with_reducible refine (HPr.out _ ?_).mono ?_); (with_reducible assumption); rintro e w2 ⟨A4, c4, A5, c5, rfl, hq, h2⟩; have d2b := rulesB2 h2 (by with_reducible assumption)))
          all_goals first | (go_step; go_step; go_meet) | (go_step; go_meet) | go_meet
          all_goals exact ⟨A4, c4, A5, c5, rfl, rfl, rfl, hq.out.1, hq.out.2, d2b⟩
        case rest =>
          obtain ⟨A4, c4, A5, c5, rfl, rfl, rfl, q4, q5, hbc⟩ := hcut
          have HH := Lib.hid (homesC wc g (hpV.later hbc).list hwho)
          have G2' := Lib.hid (G2.out.later hbc)
          have G3' := Lib.hid (G3.out.later hbc)
          have G4' := Lib.hid (G4.out.later hbc)
          have hbW := hbV.trans (hbc.mono hbV.size)
          have Q4 := Lib.hid q4
          have Q5 := Lib.hid q5
          clear hpV hbV hbc dd0 HPr q4 q5 G2 G3 G4 HR
          generalize wc = V7 at *
          go_upto_region 8 with (go_at_call 14; (with_reducible refine (HH.out).mono ?_); rintro e w8 ⟨A8, c8, rfl, hq8, h8⟩)
          have g2 := (G2'.out.later h8).2
          have g3 := (G3'.out.later h8).2
          have g4 := (G4'.out.later h8).2
          have HS1 := Lib.hid (fun W hb => sameC1 c4 (Q4.out.later h8) W hb)
          have HS2 := Lib.hid (fun W hb => sameC2 c5 (Q5.out.later h8) W hb)
          have HS3 := Lib.hid (fun W hb => sameC3 c8 hq8.out W hb)
          have hb8 := hbW.trans (h8.mono hbW.size)
          clear hbW h8 HH Q4 Q5 G2' G3' G4' hq8
          go_wp2_with (first
            | (go_at_call 16; (with_reducible refine (HS1.out _ (Below.refl _ _)).mono ?_); rintro e w9 ⟨rfl, h9⟩)
            | (go_at_call 16; (with_reducible refine (HS2.out _ h9).mono ?_); rintro e w10 ⟨rfl, h10⟩; have e10 := h9.trans (h10.mono h9.size))
            | (go_at_call 17; (with_reducible refine (HS3.out _ e10).mono ?_); rintro e w11 ⟨rfl, h11⟩; have e11 := e10.trans (h11.mono e10.size)))
          go_ret
          exact ⟨rfl, hb8.trans (e11.mono hb8.size)⟩

end Go.Proofs.YtofckokjeiaphaaGreat
