/- Shares: as data, and their points, by the program. Written by a program. -/
import Derived.Test.YtpahcbhikmfamaaGreatSPrg4
import Derived.Test.YtpahcbhikmfamaaGreatWQ2
import Derived.Handy

namespace Go.Proofs.YtpahcbhikmfamaaGreat
open Go.RowKit Go.Maps

/-- A part of a share. -/
inductive PartD where
  | scl (x : SclD) (k : Nat)
  | tre (y : TreD)
def partC : PartD → List Value
  | .scl x k => [.iface 104 (.agg #[.slice x.A x.v.cuts.length x.a, .slice x.B x.v.pts.length x.b, .int .i64 x.v.non, .int .i64 k])]
  | .tre y => [.iface 87 (.agg #[.int .i64 y.v.weight, .slice y.T y.v.nodes.length y.t])]
theorem partC_len (p : PartD) : (partC p).length = 1 := by cases p <;> rfl
theorem partC_one (p : PartD) : ∀ u ∈ partC p, u.oneCell' = true := fun u hu => by
  cases p <;>
  · simp only [partC, List.mem_cons, List.not_mem_nil, or_false] at hu
    rcases hu with rfl; rfl
def PartAt (w : World) (B : Nat) : PartD → Prop
  | .scl x _ => SclAt w B x
  | .tre y => NodsAt w B y.T y.v.nodes
theorem PartAt.later {w w' : World} {p : PartD} (h : PartAt w w.heap.size p) (hb : Below w.heap.size w w') : PartAt w' w'.heap.size p := by
  cases p with
  | scl x k => exact SclAt.later h hb
  | tre y => exact Flat.later h hb
theorem PartAt.below {w w' : World} {B : Nat} {p : PartD} (h : PartAt w B p) (hb : Below B w w') : PartAt w' B p := by
  cases p with
  | scl x k => exact SclAt.below h hb
  | tre y => exact Flat.below h hb
theorem PartAt.more {w : World} {B B' : Nat} {p : PartD} (h : PartAt w B p) (hB : B ≤ B') : PartAt w B' p := by
  cases p with
  | scl x k => exact SclAt.more h hB
  | tre y => exact Flat.more h hB
/-- Whether a part is one for so many values. -/
def PartOk (n : Nat) : PartD → Prop
  | .scl x k => sclB x.v = true ∧ k < n
  | .tre y => treB n y.v = true
def onPart (x : List Int) : PartD → Int
  | .scl s k => onScl s.v (x.getD k 0)
  | .tre y => onTre y.v x
theorem onPart_bound {x : List Int} {p : PartD} (h : PartOk x.length p) : -1000000 ≤ onPart x p ∧ onPart x p ≤ 1000000 := by
  cases p with
  | scl s k => exact onScl_bound h.1 _
  | tre y => exact onTre_bound h
structure PartsAt (w : World) (B : Nat) (P : Option Addr) (l : List PartD) : Prop where
  row : Flat 1 partC w B P l
  each : ∀ p ∈ l, PartAt w B p
theorem PartsAt.later {w w' : World} {P : Option Addr} {l : List PartD} (h : PartsAt w w.heap.size P l) (hb : Below w.heap.size w w') : PartsAt w' w'.heap.size P l := ⟨h.row.later hb, fun x hx => (h.each x hx).later hb⟩
theorem PartsAt.below {w w' : World} {B : Nat} {P : Option Addr} {l : List PartD} (h : PartsAt w B P l) (hb : Below B w w') : PartsAt w' B P l := ⟨h.row.below hb, fun x hx => (h.each x hx).below hb⟩
theorem PartsAt.more {w : World} {B B' : Nat} {P : Option Addr} {l : List PartD} (h : PartsAt w B P l) (hB : B ≤ B') : PartsAt w B' P l := ⟨h.row.more hB, fun x hx => (h.each x hx).more hB⟩
theorem parts_at {w : World} {B : Nat} {A : Option Addr} {l : List PartD} (h : Flat 1 partC w B A l) {k : Nat} (hk : k < l.length) : ∃ b off, A = some ⟨b, off, none⟩ ∧ b < B ∧ w.cell? ⟨b, off + k, none⟩ = (partC l[k])[0]? := by
  obtain ⟨b, off, e, h1, h2⟩ := h k hk
  exact ⟨b, off, e, h1, by have := h2 0 (by omega); rwa [Nat.mul_one, Nat.add_zero] at this⟩
theorem sumL_parts_bound {x : List Int} {l : List PartD} (h : ∀ p ∈ l, PartOk x.length p) : ∀ k, k ≤ l.length → -(1000000 * (k : Int)) ≤ sumL ((l.take k).map (onPart x)) ∧ sumL ((l.take k).map (onPart x)) ≤ 1000000 * (k : Int)
  | 0, _ => by simp [sumL]
  | k + 1, hk => by
    have h1 := sumL_parts_bound h k (by omega)
    have h2 := onPart_bound (h l[k] (List.getElem_mem (by omega)))
    rw [List.take_succ_eq_append_getElem (by omega), List.map_append, List.map_singleton, sumL_snoc]
    omega

set_option maxRecDepth 100000 in
set_option maxHeartbeats 4000000 in
theorem shareP_all (wt base : Int) (l : List PartD) (P : Option Addr) (p : Nat) (x : List Int) (X : Option Addr) (xc : Nat) (w : World) (h : PartsAt w w.heap.size P l) (hx : IntsAt w w.heap.size X x) (hok : ∀ q ∈ l, PartOk x.length q) (hb : ptB base = true) (hl : l.length ≤ 10) (hxl : x.length ≤ 10) :
    Calls Tryz.prog 31 #[.agg #[.int .i64 wt, .int .i64 base, .slice P l.length p], .slice X x.length xc] w fun e w' => e = .returned (.int .i64 (base + sumL (l.map (onPart x)))) ∧ Below w.heap.size w w' := by
  have b1 := (Below.refl w.heap.size w).alloc (Nat.le_refl _) (.cells #[.int .i64 wt, .int .i64 base, .slice P l.length p] 83)
  have k1 := Blk.new w #[.int .i64 wt, .int .i64 base, .slice P l.length p] 83
  have g1 := k1.lt
  have k1c := k1.cell
  have HV : Hid (base + sumL (l.map (onPart x)) = base + sumL ((l.take l.length).map (onPart x))) := Lib.hid (by rw [List.take_length])
  have HB := Lib.hid (sumL_parts_bound hok)
  have hbb := ptB_iff.1 hb
  have h1 := h.later b1
  have h1x := hx.later b1
  clear h hx hb
  generalize base + sumL (l.map (onPart x)) = V at *
  go_enter Tryz.func31, Tryz.ntmps31
  go_wp2_with fail
  generalize hW1 : w.alloc (.cells #[.int .i64 wt, .int .i64 base, .slice P l.length p] 83) = W1 at *
  clear hW1 k1c
  go_loopw [5, 13] (fun zz ii wr => ∃ (i : Nat) (z : Int), i ≤ l.length ∧ zz = .int .i64 z ∧ ii = .int .i64 i ∧ Hid (z = base + sumL ((l.take i).map (onPart x))) ∧ Hid (Below W1.heap.size W1 wr)) (fun _ ii _ => l.length - (vInt ii).toNat)
  case atStart => exact ⟨0, base, Nat.zero_le _, rfl, rfl, Lib.hid (by simp [sumL]), Lib.hid (Below.refl _ _)⟩
  case round =>
    obtain ⟨i, z, hi, rfl, rfl, hZ, hBh⟩ := hrel
    have hB := hBh.out
    have k2 := k1.below hB g1
    have b2 := b1.trans (hB.mono b1.size)
    have k2c := k2.cell
    by_cases hlt : i < l.length
    · have hil : (i : Int) < (l.length : Int) := by omega
      have h2 := h1.later hB
      obtain ⟨b, off, rfl, hb, c0⟩ := parts_at h2.row hlt
      have hmem := List.getElem_mem hlt
      have hat := h2.each _ hmem
      have hpo := hok _ hmem
      have hbd := HB.out i (by omega)
      have hbo := onPart_bound hpo
      have HN : Hid (base + sumL ((l.take (i + 1)).map (onPart x)) = base + sumL ((l.take i).map (onPart x)) + onPart x l[i]) := Lib.hid (by rw [List.take_succ_eq_append_getElem hlt, List.map_append, List.map_singleton, sumL_snoc]; omega)
      have hzv := hZ.out
      have hwr : IntKind.i64.wrap (z + onPart x l[i]) = z + onPart x l[i] := IntWalk.i64_in _ (by omega)
      have HJ : Hid (z + onPart x l[i] = base + sumL ((l.take (i + 1)).map (onPart x))) := Lib.hid (by rw [HN.out, hzv])
      have hxw := h1x.later hB
      clear hbd hbo HN hzv hZ hmem h2 hBh
      generalize l[i] = q at *
      cases q with
      | scl y k =>
        have GC : Hid (Calls Tryz.prog 130 #[.agg #[.slice y.A y.v.cuts.length y.a, .slice y.B y.v.pts.length y.b, .int .i64 y.v.non, .int .i64 k], .slice X x.length xc] wr fun e w' => e = .returned (.int .i64 (onPart x (.scl y k))) ∧ Below wr.heap.size wr w') := Lib.hid (scaleP_any y k x X xc wr hat hxw hpo.1 hpo.2 hxl)
        generalize onPart x (.scl y k) = o at *
        have c1 : wr.cell? ⟨b, off + i, none⟩ = some (.iface 104 (.agg #[.slice y.A y.v.cuts.length y.a, .slice y.B y.v.pts.length y.b, .int .i64 y.v.non, .int .i64 k])) := c0
        clear c0
        go_wp2_with (go_at_call 130; (with_reducible refine (GC.out).mono ?_); rintro e w5 ⟨rfl, h5⟩; have k5c := (k2.below h5 k2.lt).cell)
        go_roundw
        case rel => exact ⟨i + 1, z + o, by omega, rfl, by go_num, HJ, Lib.hid (hB.trans (h5.mono hB.size))⟩
        case measure => simp [vInt]; omega
      | tre y =>
        have GC : Hid (Calls Tryz.prog 129 #[.agg #[.int .i64 y.v.weight, .slice y.T y.v.nodes.length y.t], .slice X x.length xc] wr fun e w' => e = .returned (.int .i64 (onPart x (.tre y))) ∧ Below wr.heap.size wr w') := Lib.hid (treeP_any y x X xc wr hat hxw hpo hxl)
        generalize onPart x (.tre y) = o at *
        have c1 : wr.cell? ⟨b, off + i, none⟩ = some (.iface 87 (.agg #[.int .i64 y.v.weight, .slice y.T y.v.nodes.length y.t])) := c0
        clear c0
        go_wp2_with (go_at_call 129; (with_reducible refine (GC.out).mono ?_); rintro e w5 ⟨rfl, h5⟩; have k5c := (k2.below h5 k2.lt).cell)
        go_roundw
        case rel => exact ⟨i + 1, z + o, by omega, rfl, by go_num, HJ, Lib.hid (hB.trans (h5.mono hB.size))⟩
        case measure => simp [vInt]; omega
    · have hil : ¬ (i : Int) < (l.length : Int) := by omega
      obtain rfl : i = l.length := by omega
      have Hv : Hid (V = z) := Lib.hid (by rw [HV.out, hZ.out])
      clear hZ hBh
      go_wp2_with fail
      go_ret
      exact ⟨by rw [Hv.out]; rfl, b2⟩
end Go.Proofs.YtpahcbhikmfamaaGreat
