/- The law on the chapter's examples, limits and numbers returns true, whatever lies in memory; the card ties the three tables of the library that its row lists to the program's text. -/
import Derived.Test.YtoinegfcodnjhaaGreatDoorRecs
import Derived.Test.YtoinegfcodnjhaaGreatDoorSameL
import Derived.Test.YtoinegfcodnjhaaGreatDoorChecks
import Derived.Test.YtoinegfcodnjhaaGreatDoorEdw
import Derived.Test.YtoinegfcodnjhaaGreatDoorPeople
import Derived.Test.YtoinegfcodnjhaaGreatDoorSame
import Derived.Test.YtoinegfcodnjhaaGreatDoorTwinC
import Derived.Test.YtoinegfcodnjhaaGreatDoorClass
import Derived.Test.YtoinegfcodnjhaaGreatDoorSmall
import Derived.Deep.RegionLawGrows
import Derived.Deep.AppendLies
import Derived.Test.YtoinegfcodnjhaaGreatDoorRows
import Derived.Test.YtoinegfcodnjhaaGreatDoorTie
import Derived.Test.YtoinegfcodnjhaaGreatDoorCards
import Derived.ProofKit
import Derived.LaidMore
import Derived.OpenShut
import Derived.Stop.Joined
import Derived.SevenTiedAt

namespace Go.Proofs.YtoinegfcodnjhaaGreatDoor
open Go.RowKit

def recCells (x : RD) : List Value := [.int .i64 x.r.id, .slice x.A x.r.names.length x.c, .int .u8 x.r.suf, .int .i64 x.r.lo, .int .i64 x.r.hi, .string x.r.num, .bool x.r.twin, .slice x.D x.r.stays.length x.d]
theorem recCells_get : ∀ (l : List RD) (k : Nat) (h : k < l.length) (i : Nat), i < 8 → (l.flatMap recCells)[k * 8 + i]? = (recCells l[k])[i]?
  | x :: l, 0, _, i, hi => by
    rw [List.flatMap_cons, Nat.zero_mul, Nat.zero_add, List.getElem?_append_left (by simpa [recCells] using hi)]; rfl
  | x :: l, k + 1, h, i, hi => by
    have ih := recCells_get l k (by simpa using h) i hi
    rw [List.flatMap_cons, List.getElem?_append_right (by simp [recCells]; omega), show (k + 1) * 8 + i - (recCells x).length = k * 8 + i by simp [recCells]; omega]
    exact ih

end Go.Proofs.YtoinegfcodnjhaaGreatDoor

namespace Go.Proofs.YtoinegfcodnjhaaGreatDoor
open Go.RowKit

def rulC : Rul := ⟨2, 1, 30, 10⟩
abbrev wSMITH : ByteArray := { data := #[83, 77, 73, 84, 72] }
abbrev wJOHN : ByteArray := { data := #[74, 79, 72, 78] }
abbrev wPAUL : ByteArray := { data := #[80, 65, 85, 76] }
abbrev wSMYTH : ByteArray := { data := #[83, 77, 89, 84, 72] }
abbrev wJ : ByteArray := { data := #[74] }
def recC1 : Rec := ⟨1, [wSMITH, wJOHN, wPAUL], 0, 5000, 5000, { data := #[49, 50, 51, 52, 53, 54, 55, 56, 57] }, false, [⟨7, 100, 200⟩]⟩
def recC2 : Rec := ⟨2, [wSMYTH, wJOHN], 0, 5000, 5000, { data := #[49, 50, 51, 52, 53, 54, 55, 56, 48] }, false, [⟨7, 150, 300⟩]⟩
def recC3 : Rec := ⟨3, [wSMITH, wJ], 0, 5000, 5000, { data := #[] }, false, [⟨7, 180, 190⟩]⟩
def recC4 : Rec := ⟨4, [wSMITH, wJOHN], 2, 14000, 14100, { data := #[] }, false, [⟨7, 100, 400⟩]⟩
def recC5 : Rec := ⟨5, [wSMITH, wJOHN, wPAUL], 1, 5000, 5000, { data := #[57, 56, 55, 54, 53, 52, 51, 50, 49] }, false, [⟨8, 0, 50⟩]⟩
def peopleC : List Rec := [recC1, recC2, recC3, recC4, recC5]

theorem strs_of {W : World} {g B : Nat} {cs : Array Value} {t : TypeId} {l : List ByteArray} (h : Blk W g cs t) (hg : g < B) (hc : cs.toList = l.map .string) (hs : ∀ x ∈ l, x.size ≤ maxLen) : Strs W B (some ⟨g, 0, none⟩) l := fun k hk =>
  ⟨g, 0, rfl, hg, by rw [Nat.zero_add, h.cell, ← Array.getElem?_toList, hc]; simp [hk], hs _ (List.getElem_mem hk)⟩
theorem stays_of {W : World} {g B : Nat} {p f t : Int} {ty : TypeId} (h : Blk W g #[.int .i64 p, .int .i64 f, .int .i64 t] ty) (hg : g < B) : Stays W B (some ⟨g, 0, none⟩) [⟨p, f, t⟩] := fun k hk => by
  obtain rfl : k = 0 := by simp at hk; exact hk
  exact ⟨g, 0, rfl, hg, h.cell 0, h.cell 1, h.cell 2⟩
theorem recs_of {W : World} {g B : Nat} {cs : Array Value} {t : TypeId} {l : List RD} (h : Blk W g cs t) (hg : g < B) (hc : cs.toList = l.flatMap recCells) (hr : ∀ x ∈ l, RecAt W B x.A x.D x.r ∧ x.r.names.length ≤ x.c) : Recs W B (some ⟨g, 0, none⟩) l := fun k hk =>
  ⟨g, 0, rfl, hg, fun i hi => by
    rw [Nat.zero_add, h.cell, ← Array.getElem?_toList, hc, recCells_get l k hk i hi, ← Array.getElem?_toList]; rfl, hr _ (List.getElem_mem hk)⟩
theorem newAt (w : World) (cs : Array Value) (t : TypeId) {g : Nat} (hg : g = w.heap.size) : Blk (w.alloc (.cells cs t)) g cs t := hg ▸ Blk.new w cs t
theorem step2 {V V' F : World} {o1 o2 : Obj} (k : Below ((V.alloc o1).alloc o2).heap.size ((V.alloc o1).alloc o2) V') (f : Below V'.heap.size V' F) : Below ((V.alloc o1).alloc o2).heap.size ((V.alloc o1).alloc o2) F := k.trans (f.mono k.size)
theorem step1 {V V' F : World} {o1 o2 : Obj} (_ : Below ((V.alloc o1).alloc o2).heap.size ((V.alloc o1).alloc o2) V') (f : Below ((V.alloc o1).alloc o2).heap.size ((V.alloc o1).alloc o2) F) : Below V.heap.size V F :=
  (((Below.refl _ _).alloc (Nat.le_refl _) _).alloc (by simp) _).trans (f.mono (by simp; omega))

set_option maxHeartbeats 400000 in
theorem lawRules_any (w : World) : Calls Tryz.prog 9 #[] w fun e w' => e = .returned (.agg #[.int .i64 2, .int .i64 1, .int .i64 30, .int .i64 10]) ∧ Below w.heap.size w w' := by
  go_enter Tryz.func9, Tryz.ntmps9
  go_wp2_with fail
  have k := (Blk.new w #[.int .i64 2, .int .i64 1, .int .i64 30, .int .i64 10] 34).cell
  have hb : Below w.heap.size w (w.alloc (.cells #[.int .i64 2, .int .i64 1, .int .i64 30, .int .i64 10] 34)) := (Below.refl _ _).alloc (Nat.le_refl _) _
  generalize w.alloc (.cells #[.int .i64 2, .int .i64 1, .int .i64 30, .int .i64 10] 34) = W at *
  have k0 := k 0
  have k1 := k 1
  have k2 := k 2
  have k3 := k 3
  refine bodyPost_ret (v := .agg #[.int .i64 2, .int .i64 1, .int .i64 30, .int .i64 10]) ?hres rfl ?hpost
  case hres => simp [results, Tryz.results9, go_sem, k0, k1, k2, k3]
  case hpost => exact ⟨rfl, hb⟩

set_option maxHeartbeats 400000 in
theorem lawSpan_any (lo hi : Int) (w : World) : Calls Tryz.prog 15 #[.int .i64 lo, .int .i64 hi] w fun e w' => e = .returned (.agg #[.int .i64 lo, .int .i64 hi]) ∧ Below w.heap.size w w' := by
  go_enter Tryz.func15, Tryz.ntmps15
  go_wp2_with fail
  have k := (Blk.new w #[.int .i64 lo, .int .i64 hi] 38).cell
  have hb : Below w.heap.size w (w.alloc (.cells #[.int .i64 lo, .int .i64 hi] 38)) := (Below.refl _ _).alloc (Nat.le_refl _) _
  generalize w.alloc (.cells #[.int .i64 lo, .int .i64 hi] 38) = W at *
  have k0 := k 0
  have k1 := k 1
  refine bodyPost_ret (v := .agg #[.int .i64 lo, .int .i64 hi]) ?hres rfl ?hpost
  case hres => simp [results, Tryz.results15, go_sem, k0, k1]
  case hpost => exact ⟨rfl, hb⟩

theorem szC1 : (∀ x ∈ recC1.names, x.size ≤ maxLen) ∧ recC1.names.length ≤ maxLen ∧ recC1.stays.length ≤ maxLen ∧ recC1.num.size ≤ maxLen := by decide +kernel
theorem szC2 : (∀ x ∈ recC2.names, x.size ≤ maxLen) ∧ recC2.names.length ≤ maxLen ∧ recC2.stays.length ≤ maxLen ∧ recC2.num.size ≤ maxLen := by decide +kernel
theorem szC3 : (∀ x ∈ recC3.names, x.size ≤ maxLen) ∧ recC3.names.length ≤ maxLen ∧ recC3.stays.length ≤ maxLen ∧ recC3.num.size ≤ maxLen := by decide +kernel
theorem szC4 : (∀ x ∈ recC4.names, x.size ≤ maxLen) ∧ recC4.names.length ≤ maxLen ∧ recC4.stays.length ≤ maxLen ∧ recC4.num.size ≤ maxLen := by decide +kernel
theorem szC5 : (∀ x ∈ recC5.names, x.size ≤ maxLen) ∧ recC5.names.length ≤ maxLen ∧ recC5.stays.length ≤ maxLen ∧ recC5.num.size ≤ maxLen := by decide +kernel
structure PeopleAt (W : World) (g : Nat) (x1 x2 x3 x4 x5 : RD) : Prop where
  blk : Blk W g #[.int .i64 x1.r.id, .slice x1.A x1.r.names.length x1.c, .int .u8 x1.r.suf, .int .i64 x1.r.lo, .int .i64 x1.r.hi, .string x1.r.num, .bool x1.r.twin, .slice x1.D x1.r.stays.length x1.d, .int .i64 x2.r.id, .slice x2.A x2.r.names.length x2.c, .int .u8 x2.r.suf, .int .i64 x2.r.lo, .int .i64 x2.r.hi, .string x2.r.num, .bool x2.r.twin, .slice x2.D x2.r.stays.length x2.d, .int .i64 x3.r.id, .slice x3.A x3.r.names.length x3.c, .int .u8 x3.r.suf, .int .i64 x3.r.lo, .int .i64 x3.r.hi, .string x3.r.num, .bool x3.r.twin, .slice x3.D x3.r.stays.length x3.d, .int .i64 x4.r.id, .slice x4.A x4.r.names.length x4.c, .int .u8 x4.r.suf, .int .i64 x4.r.lo, .int .i64 x4.r.hi, .string x4.r.num, .bool x4.r.twin, .slice x4.D x4.r.stays.length x4.d, .int .i64 x5.r.id, .slice x5.A x5.r.names.length x5.c, .int .u8 x5.r.suf, .int .i64 x5.r.lo, .int .i64 x5.r.hi, .string x5.r.num, .bool x5.r.twin, .slice x5.D x5.r.stays.length x5.d] 41
  recs : ∀ x ∈ [x1, x2, x3, x4, x5], RecAt W W.heap.size x.A x.D x.r ∧ x.r.names.length ≤ x.c
theorem PeopleAt.later {V W : World} {g : Nat} {x1 x2 x3 x4 x5 : RD} (h : PeopleAt V g x1 x2 x3 x4 x5) (hb : Below V.heap.size V W) : PeopleAt W g x1 x2 x3 x4 x5 :=
  ⟨h.blk.below hb h.blk.lt, fun x hx => ⟨(h.recs x hx).1.later hb, (h.recs x hx).2⟩⟩
theorem PeopleAt.list {W : World} {g : Nat} {x1 x2 x3 x4 x5 : RD} (h : PeopleAt W g x1 x2 x3 x4 x5) : Recs W W.heap.size (some ⟨g, 0, none⟩) [x1, x2, x3, x4, x5] :=
  recs_of h.blk h.blk.lt rfl h.recs
theorem PeopleAt.three {W : World} {g : Nat} {x1 x2 x3 x4 x5 : RD} (h : PeopleAt W g x1 x2 x3 x4 x5) : Recs W W.heap.size (some ⟨g, 0, none⟩) [x1, x2, x3] := fun k hk => by
  match k, hk with
  | 0, _ => exact h.list 0 (by simp)
  | 1, _ => exact h.list 1 (by simp)
  | 2, _ => exact h.list 2 (by simp)

structure WhoC (x1 x2 x3 x4 x5 : RD) : Prop where
  e1 : x1.r = recC1
  e2 : x2.r = recC2
  e3 : x3.r = recC3
  e4 : x4.r = recC4
  e5 : x5.r = recC5

abbrev st3 (p f t : Int) : Obj := .cells #[.int .i64 p, .int .i64 f, .int .i64 t] 55
abbrev nm3 (x y z : ByteArray) : Obj := .cells #[.string x, .string y, .string z] 9
abbrev nm2 (x y : ByteArray) : Obj := .cells #[.string x, .string y] 9
theorem people_end {w a1 a2 a3 a4 w1 F : World} {cs : Array Value}
    (k1 : Below (w.alloc (nm3 wSMITH wJOHN wPAUL)).heap.size (w.alloc (nm3 wSMITH wJOHN wPAUL)) a1)
    (k2 : Below ((a1.alloc (st3 7 100 200)).alloc (nm2 wSMYTH wJOHN)).heap.size ((a1.alloc (st3 7 100 200)).alloc (nm2 wSMYTH wJOHN)) a2)
    (k3 : Below ((a2.alloc (st3 7 150 300)).alloc (nm2 wSMITH wJ)).heap.size ((a2.alloc (st3 7 150 300)).alloc (nm2 wSMITH wJ)) a3)
    (k4 : Below ((a3.alloc (st3 7 180 190)).alloc (nm2 wSMITH wJOHN)).heap.size ((a3.alloc (st3 7 180 190)).alloc (nm2 wSMITH wJOHN)) a4)
    (h1 : Below ((a4.alloc (st3 7 100 400)).alloc (nm3 wSMITH wJOHN wPAUL)).heap.size ((a4.alloc (st3 7 100 400)).alloc (nm3 wSMITH wJOHN wPAUL)) w1)
    (hF : F = (w1.alloc (st3 8 0 50)).alloc (.cells cs 41))
    (hcs : cs = ([(⟨recC1, some ⟨w.heap.size, 0, none⟩, 3, some ⟨a1.heap.size, 0, none⟩, 1⟩ : RD), ⟨recC2, some ⟨a1.heap.size + 1, 0, none⟩, 2, some ⟨a2.heap.size, 0, none⟩, 1⟩, ⟨recC3, some ⟨a2.heap.size + 1, 0, none⟩, 2, some ⟨a3.heap.size, 0, none⟩, 1⟩, ⟨recC4, some ⟨a3.heap.size + 1, 0, none⟩, 2, some ⟨a4.heap.size, 0, none⟩, 1⟩, ⟨recC5, some ⟨a4.heap.size + 1, 0, none⟩, 3, some ⟨w1.heap.size, 0, none⟩, 1⟩].flatMap recCells).toArray) :
    PeopleAt F (w1.heap.size + 1) ⟨recC1, some ⟨w.heap.size, 0, none⟩, 3, some ⟨a1.heap.size, 0, none⟩, 1⟩ ⟨recC2, some ⟨a1.heap.size + 1, 0, none⟩, 2, some ⟨a2.heap.size, 0, none⟩, 1⟩ ⟨recC3, some ⟨a2.heap.size + 1, 0, none⟩, 2, some ⟨a3.heap.size, 0, none⟩, 1⟩ ⟨recC4, some ⟨a3.heap.size + 1, 0, none⟩, 2, some ⟨a4.heap.size, 0, none⟩, 1⟩ ⟨recC5, some ⟨a4.heap.size + 1, 0, none⟩, 3, some ⟨w1.heap.size, 0, none⟩, 1⟩ ∧ Below w.heap.size w F := by
  have F5 := ((Below.refl w1.heap.size w1).alloc (Nat.le_refl _) (st3 8 0 50)).alloc (by simp) (.cells cs 41)
  have S5 := (Blk.new w1 #[.int .i64 8, .int .i64 0, .int .i64 50] 55).alloc (.cells cs 41)
  have R := newAt (w1.alloc (st3 8 0 50)) cs 41 (World.size_alloc _ _).symm
  rw [← hF] at F5 S5 R
  clear hF
  have Y4 := step2 h1 F5
  have F4' := step1 h1 Y4
  have Y3 := step2 k4 F4'
  have F3' := step1 k4 Y3
  have Y2 := step2 k3 F3'
  have F2' := step1 k3 Y2
  have Y1 := step2 k2 F2'
  have F1' := step1 k2 Y1
  have Y0 := k1.trans (F1'.mono k1.size)
  have N1 := (Blk.new w #[.string wSMITH, .string wJOHN, .string wPAUL] 9).below Y0 (by simp)
  have S1 := ((Blk.new a1 #[.int .i64 7, .int .i64 100, .int .i64 200] 55).alloc (nm2 wSMYTH wJOHN)).below Y1 (by simp; omega)
  have N2 := (newAt (a1.alloc (st3 7 100 200)) #[.string wSMYTH, .string wJOHN] 9 (World.size_alloc _ _).symm).below Y1 (by simp)
  have S2 := ((Blk.new a2 #[.int .i64 7, .int .i64 150, .int .i64 300] 55).alloc (nm2 wSMITH wJ)).below Y2 (by simp; omega)
  have N3 := (newAt (a2.alloc (st3 7 150 300)) #[.string wSMITH, .string wJ] 9 (World.size_alloc _ _).symm).below Y2 (by simp)
  have S3 := ((Blk.new a3 #[.int .i64 7, .int .i64 180, .int .i64 190] 55).alloc (nm2 wSMITH wJOHN)).below Y3 (by simp; omega)
  have N4 := (newAt (a3.alloc (st3 7 180 190)) #[.string wSMITH, .string wJOHN] 9 (World.size_alloc _ _).symm).below Y3 (by simp)
  have S4 := ((Blk.new a4 #[.int .i64 7, .int .i64 100, .int .i64 400] 55).alloc (nm3 wSMITH wJOHN wPAUL)).below Y4 (by simp; omega)
  have N5 := (newAt (a4.alloc (st3 7 100 400)) #[.string wSMITH, .string wJOHN, .string wPAUL] 9 (World.size_alloc _ _).symm).below Y4 (by simp)
  have hb : Below w.heap.size w F := ((Below.refl _ _).alloc (Nat.le_refl _) _).trans (Y0.mono (by simp))
  clear k1 k2 k3 k4 h1 F5 F4' F3' F2' F1' Y0 Y1 Y2 Y3 Y4
  rw [hcs] at R
  refine ⟨⟨R, ?_⟩, hb⟩
  intro x hx
  simp only [List.mem_cons, List.not_mem_nil, or_false] at hx
  rcases hx with rfl | rfl | rfl | rfl | rfl
  · exact ⟨⟨strs_of N1 N1.lt rfl szC1.1, stays_of S1 S1.lt, szC1.2.1, szC1.2.2.1, szC1.2.2.2⟩, Nat.le_refl _⟩
  · exact ⟨⟨strs_of N2 N2.lt rfl szC2.1, stays_of S2 S2.lt, szC2.2.1, szC2.2.2.1, szC2.2.2.2⟩, Nat.le_refl _⟩
  · exact ⟨⟨strs_of N3 N3.lt rfl szC3.1, stays_of S3 S3.lt, szC3.2.1, szC3.2.2.1, szC3.2.2.2⟩, Nat.le_refl _⟩
  · exact ⟨⟨strs_of N4 N4.lt rfl szC4.1, stays_of S4 S4.lt, szC4.2.1, szC4.2.2.1, szC4.2.2.2⟩, Nat.le_refl _⟩
  · exact ⟨⟨strs_of N5 N5.lt rfl szC5.1, stays_of S5 S5.lt, szC5.2.1, szC5.2.2.1, szC5.2.2.2⟩, Nat.le_refl _⟩

set_option maxRecDepth 100000 in
set_option maxHeartbeats 1000000 in
theorem lawPeople_any (w : World) : Calls Tryz.prog 6 #[] w fun e w' => ∃ g x1 x2 x3 x4 x5, e = .returned (.slice (some ⟨g, 0, none⟩) 5 5) ∧ WhoC x1 x2 x3 x4 x5 ∧ PeopleAt w' g x1 x2 x3 x4 x5 ∧ Below w.heap.size w w' := by
  go_enter Tryz.func6, Tryz.ntmps6
  go_wp2_with (first
    | (go_at_call 15; with_reducible refine (lawSpan_any _ _ _).mono ?_; rintro e w1 ⟨rfl, h1⟩))
  rename_i a1 k1 a2 k2 a3 k3 a4 k4
  go_ret
  exact ⟨_, _, _, _, _, _, rfl, ⟨rfl, rfl, rfl, rfl, rfl⟩, people_end k1 k2 k3 k4 h1 rfl rfl⟩

end Go.Proofs.YtoinegfcodnjhaaGreatDoor

namespace Go.Proofs.YtoinegfcodnjhaaGreatDoor
open Go.RowKit

/-- The distance, by a bound on the steps. -/
def DF (a b : List UInt8) : Nat → Nat → Nat → Nat
  | 0, _, _ => 0
  | _ + 1, 0, j => j
  | _ + 1, i + 1, 0 => i + 1
  | n + 1, i + 1, j + 1 => min (DF a b n i j + sub a b i j) (min (DF a b n i (j + 1) + 1) (DF a b n (i + 1) j + 1))
theorem DF_eq (a b : List UInt8) : ∀ n i j, i + j < n → DF a b n i j = D a b i j
  | 0, _, _, h => by omega
  | n + 1, 0, j, _ => (D_zero a b j).symm
  | n + 1, i + 1, 0, _ => (D_left a b (i + 1)).symm
  | n + 1, i + 1, j + 1, h => by
    rw [D_succ, ← DF_eq a b n i j (by omega), ← DF_eq a b n i (j + 1) (by omega), ← DF_eq a b n (i + 1) j (by omega)]
    rfl
theorem levF (a b : List UInt8) : lev a b = DF a b (a.length + b.length + 1) a.length b.length := (DF_eq a b _ _ _ (by omega)).symm
theorem levC1 : lev wSMYTH.data.toList wSMITH.data.toList = 1 := by rw [levF]; decide +kernel
theorem levC2 : lev wSMITH.data.toList [83, 77, 89, 84, 72, 69] = 2 := by rw [levF]; decide +kernel
theorem edC : edN wSMITH { data := #[83, 77, 89, 84, 72, 69] } = 2 ∧ edE wSMITH { data := #[83, 77, 89, 84, 72, 69] } = 0 := by
  refine ⟨?_, by decide +kernel⟩
  rw [edN, if_pos (by decide +kernel)]
  show ((lev wSMITH.data.toList [83, 77, 89, 84, 72, 69] : Nat) : Int) = 2
  rw [levC2]; rfl
theorem namesC2 : namesS 2 recC1.names recC2.names = 2 := by
  rw [namesS, if_pos (by decide +kernel), namesF_B _ _ _ (by decide +kernel) (by decide +kernel)]
  show namesV wSMYTH wSMITH _ _ (lev wSMYTH.data.toList wSMITH.data.toList) 2 = 2
  rw [levC1]; decide +kernel
theorem namesC23 : namesS 2 recC2.names recC3.names = 2 := by
  rw [namesS, if_neg (by decide +kernel), namesF_B _ _ _ (by decide +kernel) (by decide +kernel)]
  show namesV wSMYTH wSMITH _ _ (lev wSMYTH.data.toList wSMITH.data.toList) 2 = 2
  rw [levC1]; decide +kernel
theorem matC2 : matF rulC recC1 recC2 = ⟨2, 2, 3, 3, 1⟩ := by
  unfold matF
  rw [show rulC.l = 2 from rfl, namesC2]; decide +kernel
theorem matC23 : matF rulC recC2 recC3 = ⟨2, 1, 3, 3, 1⟩ := by
  unfold matF
  rw [show rulC.l = 2 from rfl, namesC23]; decide +kernel
theorem cmpC2 : cmpM rulC recC1 recC2 = ⟨2, 2, 3, 3, 1⟩ ∧ cmpE rulC recC1 recC2 = 0 := by
  have h : cmpE rulC recC1 recC2 = 0 := by decide +kernel
  exact ⟨(cmpM_good h).trans matC2, h⟩
theorem cmpC3 : cmpM rulC recC1 recC3 = ⟨3, 1, 3, 3, 2⟩ ∧ cmpE rulC recC1 recC3 = 0 := by decide +kernel
theorem matC3 : matF rulC recC1 recC3 = ⟨3, 1, 3, 3, 2⟩ := by decide +kernel
theorem cmpC4 : cmpM rulC recC1 recC4 = ⟨3, 1, 0, 3, 0⟩ ∧ cmpE rulC recC1 recC4 = 0 := by decide +kernel
theorem sortC {l : List Rec} (hs : l.Pairwise fun x y => x.id ≤ y.id) (hn : (l.map Rec.id).Nodup) : sortR l = l := (sorted_eq (List.Perm.refl l) hs hn).symm
theorem pairC : pairsE rulC [recC1, recC2, recC3] = 0 ∧ pairsV rulC 2 [recC1, recC2, recC3] = [(1, 3)] ∧ pairsV rulC 1 [recC1, recC2, recC3] = [(1, 2), (2, 3)] := by
  have hE : pairsE rulC [recC1, recC2, recC3] = 0 := by decide +kernel
  have hS : sortR [recC1, recC2, recC3] = [recC1, recC2, recC3] := sortC (by decide +kernel) (by decide +kernel)
  have i1 : recC1.id = 1 := rfl
  have i2 : recC2.id = 2 := rfl
  have i3 : recC3.id = 3 := rfl
  refine ⟨hE, ?_, ?_⟩
  · rw [pairsV, if_pos hE, hS]
    simp [pairTo, pairRow, List.range_succ, matC2, matC3, matC23, i1, i2, i3, List.filter_cons]
  · rw [pairsV, if_pos hE, hS]
    simp [pairTo, pairRow, List.range_succ, matC2, matC3, matC23, i1, i2, i3, List.filter_cons]
theorem homeC : homesE 185 peopleC = 0 ∧ homesV 185 peopleC = [[1, 2, 3, 4]] := by
  have hE : homesE 185 peopleC = 0 := by decide +kernel
  have hS : sortR peopleC = peopleC := sortC (by decide +kernel) (by decide +kernel)
  refine ⟨hE, ?_⟩
  rw [homesV, if_pos hE, hS]
  have hP : placesL 185 peopleC = [7] := by
    rw [← placesL_eq (ks := [7]) (day := 185) (l := peopleC) (by decide) (fun p => ?_)]
    · simp
    · by_cases hp : p = 7
      · subst hp; decide +kernel
      · by_cases hp8 : p = 8
        · subst hp8; decide +kernel
        · have e : idsAt 185 p peopleC = [] := by
            simp [idsAt, peopleC, recC1, recC2, recC3, recC4, recC5, atB, ofP, Ne.symm hp, Ne.symm hp8]
          rw [e]; simp [hp]
  rw [homesL, hP]; decide +kernel

end Go.Proofs.YtoinegfcodnjhaaGreatDoor

namespace Go.Proofs.YtoinegfcodnjhaaGreatDoor
open Go.RowKit

theorem compC {x1 x2 : RD} {M : Mat} (W : World) (hM : cmpM rulC x1.r x2.r = M ∧ cmpE rulC x1.r x2.r = 0) (s1 : 0 ≤ x1.r.suf) (s2 : 0 ≤ x2.r.suf) (h1 : RecAt W W.heap.size x1.A x1.D x1.r) (h2 : RecAt W W.heap.size x2.A x2.D x2.r) (n1 : x1.r.names.length ≤ x1.c) (n2 : x2.r.names.length ≤ x2.c) :
    Calls Tryz.prog 8 #[.agg #[.int .i64 2, .int .i64 1, .int .i64 30, .int .i64 10], .agg #[.int .i64 x1.r.id, .slice x1.A x1.r.names.length x1.c, .int .u8 x1.r.suf, .int .i64 x1.r.lo, .int .i64 x1.r.hi, .string x1.r.num, .bool x1.r.twin, .slice x1.D x1.r.stays.length x1.d], .agg #[.int .i64 x2.r.id, .slice x2.A x2.r.names.length x2.c, .int .u8 x2.r.suf, .int .i64 x2.r.lo, .int .i64 x2.r.hi, .string x2.r.num, .bool x2.r.twin, .slice x2.D x2.r.stays.length x2.d]] W fun e w' => e = .returned (.tuple #[.agg #[.int .u8 M.names, .int .u8 M.num, .int .u8 M.born, .int .u8 M.place, .int .u8 M.one], .int .i64 0]) ∧ Below W.heap.size W w' := by
  have h := compare_any rulC x1.r x2.r x1.A x2.A x1.D x2.D x1.c x2.c x1.d x2.d W s1 s2 h1 h2 n1 n2
  rw [hM.1, hM.2] at h
  exact h
theorem pairsC {x1 x2 x3 : RD} (W : World) (g : Nat) (h : Recs W W.heap.size (some ⟨g, 0, none⟩) [x1, x2, x3]) (e1 : x1.r = recC1) (e2 : x2.r = recC2) (e3 : x3.r = recC3) :
    Calls Tryz.prog 10 #[.agg #[.int .i64 2, .int .i64 1, .int .i64 30, .int .i64 10], .slice (some ⟨g, 0, none⟩) 3 5] W fun e w' => ∃ A4 c4 A5 c5, e = .returned (.tuple #[.slice A4 1 c4, .slice A5 2 c5, .int .i64 0]) ∧ Hid (Prs w' w'.heap.size A4 [(1, 3)] ∧ Prs w' w'.heap.size A5 [(1, 2), (2, 3)]) ∧ Below W.heap.size W w' := by
  have hl : [x1, x2, x3].map RD.r = [recC1, recC2, recC3] := by simp [e1, e2, e3]
  have hp := pairs_any rulC [x1, x2, x3] (some ⟨g, 0, none⟩) 5 W h (by simp [maxLen]) (by rw [hl]; decide +kernel)
  rw [hl, pairC.1, pairC.2.1, pairC.2.2] at hp
  refine hp.mono ?_
  rintro e w' ⟨v4, v5, rfl, o4, o5, hb⟩
  obtain ⟨A4, c4, rfl⟩ := own_slice o4
  obtain ⟨A5, c5, rfl⟩ := own_slice o5
  exact ⟨A4, c4, A5, c5, rfl, Lib.hid ⟨Prs.of_own o4, Prs.of_own o5⟩, hb⟩
theorem homesC {x1 x2 x3 x4 x5 : RD} (W : World) (g : Nat) (h : Recs W W.heap.size (some ⟨g, 0, none⟩) [x1, x2, x3, x4, x5]) (hw : WhoC x1 x2 x3 x4 x5) :
    Calls Tryz.prog 11 #[.slice (some ⟨g, 0, none⟩) 5 5, .int .i64 185] W fun e w' => ∃ A c, e = .returned (.tuple #[.slice A 1 c, .int .i64 0]) ∧ Hid (Lists w' w'.heap.size A [[1, 2, 3, 4]]) ∧ Below W.heap.size W w' := by
  have hl : [x1, x2, x3, x4, x5].map RD.r = peopleC := by simp [hw.e1, hw.e2, hw.e3, hw.e4, hw.e5, peopleC]
  have hp := homes_any 185 [x1, x2, x3, x4, x5] (some ⟨g, 0, none⟩) 5 W h (by simp [maxLen])
  rw [hl, homeC.1, homeC.2] at hp
  refine hp.mono ?_
  rintro e w' ⟨A, c, rfl, hL, hb⟩
  exact ⟨A, c, rfl, Lib.hid hL, hb⟩
theorem editsC (W : World) : Calls Tryz.prog 7 #[.string { data := #[83, 77, 73, 84, 72] }, .string { data := #[83, 77, 89, 84, 72, 69] }] W fun e w' => e = .returned (.tuple #[.int .i64 2, .int .i64 0]) ∧ Below W.heap.size W w' := by
  have h := edits2_any wSMITH { data := #[83, 77, 89, 84, 72, 69] } W
  rw [edC.1, edC.2] at h
  exact h
theorem sameC1 {V : World} {A : Option Addr} (c : Nat) (h : Prs V V.heap.size A [(1, 3)]) (W : World) (hb : Below V.heap.size V W) :
    Calls Tryz.prog 12 #[.slice A 1 c, .slice (some ⟨W.heap.size, 0, none⟩) 1 1] (W.alloc (.cells #[.int .i64 1, .int .i64 3] 49)) fun e w' => e = .returned (.bool true) ∧ Below W.heap.size W w' := by
  have b0 := (Below.refl W.heap.size W).alloc (Nat.le_refl _) (.cells #[.int .i64 1, .int .i64 3] 49)
  have kn := Blk.new W #[.int .i64 1, .int .i64 3] 49
  have hn : Prs (W.alloc (.cells #[.int .i64 1, .int .i64 3] 49)) (W.alloc (.cells #[.int .i64 1, .int .i64 3] 49)).heap.size (some ⟨W.heap.size, 0, none⟩) [(1, 3)] := fun k hk => by
    match k, hk with
    | 0, _ => exact ⟨_, _, rfl, kn.lt, kn.cell 0, kn.cell 1⟩
  exact (samePairs_any [(1, 3)] A _ c 1 _ ((h.later hb).later b0) hn (by decide)).mono fun e w' ⟨h1, h2⟩ => ⟨h1, b0.trans (h2.mono b0.size)⟩
theorem sameC2 {V : World} {A : Option Addr} (c : Nat) (h : Prs V V.heap.size A [(1, 2), (2, 3)]) (W : World) (hb : Below V.heap.size V W) :
    Calls Tryz.prog 12 #[.slice A 2 c, .slice (some ⟨W.heap.size, 0, none⟩) 2 2] (W.alloc (.cells #[.int .i64 1, .int .i64 2, .int .i64 2, .int .i64 3] 49)) fun e w' => e = .returned (.bool true) ∧ Below W.heap.size W w' := by
  have b0 := (Below.refl W.heap.size W).alloc (Nat.le_refl _) (.cells #[.int .i64 1, .int .i64 2, .int .i64 2, .int .i64 3] 49)
  have kn := Blk.new W #[.int .i64 1, .int .i64 2, .int .i64 2, .int .i64 3] 49
  have hn : Prs (W.alloc (.cells #[.int .i64 1, .int .i64 2, .int .i64 2, .int .i64 3] 49)) (W.alloc (.cells #[.int .i64 1, .int .i64 2, .int .i64 2, .int .i64 3] 49)).heap.size (some ⟨W.heap.size, 0, none⟩) [(1, 2), (2, 3)] := fun k hk => by
    match k, hk with
    | 0, _ => exact ⟨_, _, rfl, kn.lt, kn.cell 0, kn.cell 1⟩
    | 1, _ => exact ⟨_, _, rfl, kn.lt, kn.cell 2, kn.cell 3⟩
  exact (samePairs_any [(1, 2), (2, 3)] A _ c 2 _ ((h.later hb).later b0) hn (by decide)).mono fun e w' ⟨h1, h2⟩ => ⟨h1, b0.trans (h2.mono b0.size)⟩
theorem sameC3 {V : World} {A : Option Addr} (c : Nat) (h : Lists V V.heap.size A [[1, 2, 3, 4]]) (W : World) (hb : Below V.heap.size V W) :
    Calls Tryz.prog 13 #[.slice A 1 c, .slice (some ⟨W.heap.size + 1, 0, none⟩) 1 1] ((W.alloc (.cells #[.int .i64 1, .int .i64 2, .int .i64 3, .int .i64 4] 3)).alloc (.cells #[.slice (some ⟨W.heap.size, 0, none⟩) 4 4] 51)) fun e w' => e = .returned (.bool true) ∧ Below W.heap.size W w' := by
  have b0 := ((Below.refl W.heap.size W).alloc (Nat.le_refl _) (.cells #[.int .i64 1, .int .i64 2, .int .i64 3, .int .i64 4] 3)).alloc (by simp) (.cells #[.slice (some ⟨W.heap.size, 0, none⟩) 4 4] 51)
  have k1 := (Blk.new W #[.int .i64 1, .int .i64 2, .int .i64 3, .int .i64 4] 3).alloc (.cells #[.slice (some ⟨W.heap.size, 0, none⟩) 4 4] 51)
  have k2 := newAt (W.alloc (.cells #[.int .i64 1, .int .i64 2, .int .i64 3, .int .i64 4] 3)) #[.slice (some ⟨W.heap.size, 0, none⟩) 4 4] 51 (World.size_alloc _ _).symm
  generalize (W.alloc (.cells #[.int .i64 1, .int .i64 2, .int .i64 3, .int .i64 4] 3)).alloc (.cells #[.slice (some ⟨W.heap.size, 0, none⟩) 4 4] 51) = X at *
  have hi : Ints X X.heap.size (some ⟨W.heap.size, 0, none⟩) [1, 2, 3, 4] := fun k hk => by
    match k, hk with
    | 0, _ => exact ⟨_, _, rfl, k1.lt, k1.cell 0⟩
    | 1, _ => exact ⟨_, _, rfl, k1.lt, k1.cell 1⟩
    | 2, _ => exact ⟨_, _, rfl, k1.lt, k1.cell 2⟩
    | 3, _ => exact ⟨_, _, rfl, k1.lt, k1.cell 3⟩
  have hn : Lists X X.heap.size (some ⟨W.heap.size + 1, 0, none⟩) [[1, 2, 3, 4]] := fun k hk => by
    match k, hk with
    | 0, _ => exact ⟨_, _, rfl, k2.lt, _, 4, k2.cell 0, hi⟩
  exact (sameLists_any [[1, 2, 3, 4]] A _ c 1 X ((h.later hb).later b0) hn (by decide) (by decide)).mono fun e w' ⟨h1, h2⟩ => ⟨h1, b0.trans (h2.mono b0.size)⟩

end Go.Proofs.YtoinegfcodnjhaaGreatDoor

namespace Go.Proofs.YtoinegfcodnjhaaGreatDoor
open Go.RowKit

def MatAt (V : World) (cs : Array Value) (s5 s6 : Value) (W : World) : Prop := ∃ b, s5 = .pointer (some ⟨b, 0, none⟩) ∧ s6 = .int .i64 0 ∧ b < W.heap.size ∧ (∀ i, i < 5 → W.cell? ⟨b, i, none⟩ = cs[i]?) ∧ Below V.heap.size V W
theorem Blk.row5 {w : World} {g : Nat} {cs : Array Value} {t : TypeId} (h : Blk w g cs t) (hc : cs.size = 5) (v0 v1 v2 v3 v4 : Value) : Blk (((((w.setCell ⟨g, 0, none⟩ v0).setCell ⟨g, 1, none⟩ v1).setCell ⟨g, 2, none⟩ v2).setCell ⟨g, 3, none⟩ v3).setCell ⟨g, 4, none⟩ v4) g #[v0, v1, v2, v3, v4] t := by
  have hh := ((((h.set 0 v0).set 1 v1).set 2 v2).set 3 v3).set 4 v4
  have e : ((((((cs.setIfInBounds 0 v0).setIfInBounds 1 v1).setIfInBounds 2 v2).setIfInBounds 3 v3).setIfInBounds 4 v4) : Array Value) = #[v0, v1, v2, v3, v4] := by
    rcases cs with ⟨l⟩
    rcases l with _ | ⟨a0, _ | ⟨a1, _ | ⟨a2, _ | ⟨a3, _ | ⟨a4, _ | ⟨a5, l⟩⟩⟩⟩⟩⟩ <;> first | (simp at hc; done) | (simp at hc; omega) | simp
  rw [e] at hh
  exact hh
theorem Blk.row5Z {w : World} {g : Nat} {t : TypeId} (h : Blk w g #[.int .u8 0, .int .u8 0, .int .u8 0, .int .u8 0, .int .u8 0] t) (v0 v1 v2 v3 v4 : Value) : Blk (((((w.setCell ⟨g, 0, none⟩ v0).setCell ⟨g, 1, none⟩ v1).setCell ⟨g, 2, none⟩ v2).setCell ⟨g, 3, none⟩ v3).setCell ⟨g, 4, none⟩ v4) g #[v0, v1, v2, v3, v4] t := h.row5 rfl v0 v1 v2 v3 v4
theorem newAt' (w : World) (cs : Array Value) (t : TypeId) {g : Nat} (hg : g = w.heap.size) : Blk (w.alloc (.cells cs t)) g cs t := hg ▸ Blk.new w cs t
theorem rulesB2 {V X W : World} (h : Below X.heap.size X W) (hX : Below V.heap.size V X) : Below V.heap.size V W := hX.trans (h.mono hX.size)
theorem rulesB3 {V X W : World} {Q : Prop} (h : Below X.heap.size X W) (hX : Below V.heap.size V X ∧ Q) : Below V.heap.size V W := hX.1.trans (h.mono hX.1.size)
theorem PeopleAt.lateS {V W : World} {g : Nat} {x1 x2 x3 x4 x5 : RD} {Q : Prop} (h : PeopleAt V g x1 x2 x3 x4 x5) (hS : Below V.heap.size V W ∧ Q) : PeopleAt W g x1 x2 x3 x4 x5 := h.later hS.1

theorem heldB {B : Nat} {V W : World} {Q : Prop} (h : Below B V W ∧ Q) : Below B V W := h.1
theorem matAt_of {V W : World} {b : Nat} {t : TypeId} {cs : Array Value} (k : Blk W b cs t) (hb : Below V.heap.size V W) : MatAt V cs (.pointer (some ⟨b, 0, none⟩)) (.int .i64 0) W := ⟨b, rfl, rfl, k.lt, fun i _ => k.cell i, hb⟩
/-- The five cells of a found agreement. -/
def MatIn (W : World) (b : Nat) (cs : Array Value) : Prop := b < W.heap.size ∧ ∀ i, i < 5 → W.cell? ⟨b, i, none⟩ = cs[i]?
theorem MatIn.later {V W : World} {b : Nat} {cs : Array Value} (h : MatIn V b cs) (hb : Below V.heap.size V W) : MatIn W b cs := ⟨Nat.lt_of_lt_of_le h.1 hb.size, fun i hi => (hb.cell (p := ⟨b, i, none⟩) h.1).trans (h.2 i hi)⟩
def PairsAt (V : World) (s1 s2 s3 : Value) (W : World) : Prop := ∃ A4 c4 A5 c5, s1 = .slice A4 1 c4 ∧ s2 = .slice A5 2 c5 ∧ s3 = .int .i64 0 ∧ Prs W W.heap.size A4 [(1, 3)] ∧ Prs W W.heap.size A5 [(1, 2), (2, 3)] ∧ Below V.heap.size V W

set_option maxRecDepth 100000 in
set_option maxHeartbeats 8000000 in
theorem alive_any (w : World) : Calls Tryz.prog 4 #[] w fun e w' => e = .returned (.bool true) ∧ Below w.heap.size w w' := by
  have HP := Lib.hid (fun W => lawPeople_any W)
  have HE := Lib.hid (fun W => editsC W)
  have HR := Lib.hid (fun W => lawRules_any W)
  go_enter Tryz.func4, Tryz.ntmps4
  go_upto_region 3 with (first
    | (go_at_call 6; (with_reducible refine (HP.out _).mono ?_); rintro e w1 ⟨g, x1, x2, x3, x4, x5, rfl, hwho, hp1, h1⟩)
    | (go_at_call 7; (with_reducible refine (HE.out _).mono ?_); rintro e w2 ⟨rfl, h2⟩))
  have hpV := hp1.later h2
  have hbV := h1.trans (h2.mono h1.size)
  clear hp1 h1 h2 HP HE
  generalize w2 = V3 at *
  clear w1
  have SK : ∀ W, Below V3.heap.size V3 W → Below V3.heap.size V3 W ∧ (∀ i, W.cell? ⟨g, i, none⟩ = (#[.int .i64 x1.r.id, .slice x1.A x1.r.names.length x1.c, .int .u8 x1.r.suf, .int .i64 x1.r.lo, .int .i64 x1.r.hi, .string x1.r.num, .bool x1.r.twin, .slice x1.D x1.r.stays.length x1.d, .int .i64 x2.r.id, .slice x2.A x2.r.names.length x2.c, .int .u8 x2.r.suf, .int .i64 x2.r.lo, .int .i64 x2.r.hi, .string x2.r.num, .bool x2.r.twin, .slice x2.D x2.r.stays.length x2.d, .int .i64 x3.r.id, .slice x3.A x3.r.names.length x3.c, .int .u8 x3.r.suf, .int .i64 x3.r.lo, .int .i64 x3.r.hi, .string x3.r.num, .bool x3.r.twin, .slice x3.D x3.r.stays.length x3.d, .int .i64 x4.r.id, .slice x4.A x4.r.names.length x4.c, .int .u8 x4.r.suf, .int .i64 x4.r.lo, .int .i64 x4.r.hi, .string x4.r.num, .bool x4.r.twin, .slice x4.D x4.r.stays.length x4.d, .int .i64 x5.r.id, .slice x5.A x5.r.names.length x5.c, .int .u8 x5.r.suf, .int .i64 x5.r.lo, .int .i64 x5.r.hi, .string x5.r.num, .bool x5.r.twin, .slice x5.D x5.r.stays.length x5.d] : Array Value)[i]?) := fun W hW => ⟨hW, (hpV.later hW).blk.cell⟩
  have kP := hpV.blk.cell
  have dd0 : Below V3.heap.size V3 V3.drew := (Below.refl _ _).drew
  have HC := Lib.hid (fun W (hW : PeopleAt W g x1 x2 x3 x4 x5) => compC (x1 := x1) (x2 := x2) W (M := ⟨2, 2, 3, 3, 1⟩) (by rw [hwho.e1, hwho.e2]; exact cmpC2) (by rw [hwho.e1]; decide) (by rw [hwho.e2]; decide) (hW.recs x1 (by simp)).1 (hW.recs x2 (by simp)).1 (hW.recs x1 (by simp)).2 (hW.recs x2 (by simp)).2)
  dsimp only at HC
  go_cut [4, 5] (fun s5 s6 wx => MatAt V3 #[.int .u8 2, .int .u8 2, .int .u8 3, .int .u8 3, .int .u8 1] s5 s6 wx)
  case first =>
    go_region_held3 (fun W => Below V3.heap.size V3 W ∧ (∀ i, W.cell? ⟨g, i, none⟩ = (#[.int .i64 x1.r.id, .slice x1.A x1.r.names.length x1.c, .int .u8 x1.r.suf, .int .i64 x1.r.lo, .int .i64 x1.r.hi, .string x1.r.num, .bool x1.r.twin, .slice x1.D x1.r.stays.length x1.d, .int .i64 x2.r.id, .slice x2.A x2.r.names.length x2.c, .int .u8 x2.r.suf, .int .i64 x2.r.lo, .int .i64 x2.r.hi, .string x2.r.num, .bool x2.r.twin, .slice x2.D x2.r.stays.length x2.d, .int .i64 x3.r.id, .slice x3.A x3.r.names.length x3.c, .int .u8 x3.r.suf, .int .i64 x3.r.lo, .int .i64 x3.r.hi, .string x3.r.num, .bool x3.r.twin, .slice x3.D x3.r.stays.length x3.d, .int .i64 x4.r.id, .slice x4.A x4.r.names.length x4.c, .int .u8 x4.r.suf, .int .i64 x4.r.lo, .int .i64 x4.r.hi, .string x4.r.num, .bool x4.r.twin, .slice x4.D x4.r.stays.length x4.d, .int .i64 x5.r.id, .slice x5.A x5.r.names.length x5.c, .int .u8 x5.r.suf, .int .i64 x5.r.lo, .int .i64 x5.r.hi, .string x5.r.num, .bool x5.r.twin, .slice x5.D x5.r.stays.length x5.d] : Array Value)[i]?)) ((refine SK _ ?_; repeat (first | with_reducible assumption | with_reducible exact Below.refl _ _ | with_reducible refine Below.drew ?_ | with_reducible refine Below.alloc ?_ (by first | omega | (simp; done) | (simp; omega)) _ | with_reducible refine Below.setCell ?_ (by first | omega | (simp; done) | (simp; omega)) _)))
      (first
        | (go_at_call 9; (with_reducible refine (HR.out _).mono ?_); rintro e w1 ⟨rfl, h1⟩; have d1b := rulesB3 h1 (by with_reducible assumption); have hv1 := d1b.size; have hz1 := h1.size; (try (simp at hz1)); (try (have P1 := ((Blk.new V3 #[.int .u8 0, .int .u8 0, .int .u8 0, .int .u8 0, .int .u8 0] 30).drew).below h1 (by first | omega | (simp; done) | (simp; omega)); have P1c := P1.cell; have P1f := P1.free)); (try (have Q1 := fun hX => ((newAt' V3.drew #[.int .u8 0, .int .u8 0, .int .u8 0, .int .u8 0, .int .u8 0] 30 rfl)).below h1 hX)))
        | (go_at_call 8; (with_reducible refine (HC.out _ ?_).mono ?_); exact hpV.lateS (by with_reducible assumption); rintro e w2 ⟨rfl, h2⟩; have d2b := rulesB3 h2 (by with_reducible assumption); have hz2 := h2.size; (try (simp at hz2)); have hv2 := d2b.size; (try (have R1 := P1.below h2 (by first | omega | (simp; done) | (simp; omega)); have R1c := R1.cell; have R1f := R1.free)); (try (have R3 := (Blk.new w1 #[.int .u8 0, .int .u8 0, .int .u8 0, .int .u8 0, .int .u8 0] 30).below h2 (by first | omega | (simp; done) | (simp; omega)); have R3c := R3.cell; have R3f := R3.free))))
    all_goals first | (go_step; go_step; go_meet) | (go_step; go_meet) | go_meet
    all_goals (with_reducible refine matAt_of (t := 30) ?_ (heldB (by with_reducible assumption)))
    all_goals first | with_reducible exact Blk.new _ _ _ | with_reducible exact Blk.row5Z (by with_reducible assumption) _ _ _ _ _
  case rest =>
    obtain ⟨b2, rfl, rfl, l2, g2, hbc⟩ := hcut
    have G2 : Hid (MatIn wc b2 #[.int .u8 2, .int .u8 2, .int .u8 3, .int .u8 3, .int .u8 1]) := Lib.hid ⟨l2, g2⟩
    have hpW := hpV.later hbc
    have hbW := hbV.trans (hbc.mono hbV.size)
    clear hpV hbV hbc SK kP dd0 HC l2 g2
    have hpV := hpW
    have hbV := hbW
    clear hpW hbW
    generalize wc = V4 at *
    go_upto_region 4 with fail
    have SK : ∀ W, Below V4.heap.size V4 W → Below V4.heap.size V4 W ∧ (∀ i, W.cell? ⟨g, i, none⟩ = (#[.int .i64 x1.r.id, .slice x1.A x1.r.names.length x1.c, .int .u8 x1.r.suf, .int .i64 x1.r.lo, .int .i64 x1.r.hi, .string x1.r.num, .bool x1.r.twin, .slice x1.D x1.r.stays.length x1.d, .int .i64 x2.r.id, .slice x2.A x2.r.names.length x2.c, .int .u8 x2.r.suf, .int .i64 x2.r.lo, .int .i64 x2.r.hi, .string x2.r.num, .bool x2.r.twin, .slice x2.D x2.r.stays.length x2.d, .int .i64 x3.r.id, .slice x3.A x3.r.names.length x3.c, .int .u8 x3.r.suf, .int .i64 x3.r.lo, .int .i64 x3.r.hi, .string x3.r.num, .bool x3.r.twin, .slice x3.D x3.r.stays.length x3.d, .int .i64 x4.r.id, .slice x4.A x4.r.names.length x4.c, .int .u8 x4.r.suf, .int .i64 x4.r.lo, .int .i64 x4.r.hi, .string x4.r.num, .bool x4.r.twin, .slice x4.D x4.r.stays.length x4.d, .int .i64 x5.r.id, .slice x5.A x5.r.names.length x5.c, .int .u8 x5.r.suf, .int .i64 x5.r.lo, .int .i64 x5.r.hi, .string x5.r.num, .bool x5.r.twin, .slice x5.D x5.r.stays.length x5.d] : Array Value)[i]?) := fun W hW => ⟨hW, (hpV.later hW).blk.cell⟩
    have kP := hpV.blk.cell
    have dd0 : Below V4.heap.size V4 V4.drew := (Below.refl _ _).drew
    have HC := Lib.hid (fun W (hW : PeopleAt W g x1 x2 x3 x4 x5) => compC (x1 := x1) (x2 := x3) W (M := ⟨3, 1, 3, 3, 2⟩) (by rw [hwho.e1, hwho.e3]; exact cmpC3) (by rw [hwho.e1]; decide) (by rw [hwho.e3]; decide) (hW.recs x1 (by simp)).1 (hW.recs x3 (by simp)).1 (hW.recs x1 (by simp)).2 (hW.recs x3 (by simp)).2)
    dsimp only at HC
    go_cut [6, 7] (fun s5 s6 wx => MatAt V4 #[.int .u8 3, .int .u8 1, .int .u8 3, .int .u8 3, .int .u8 2] s5 s6 wx)
    case first =>
      go_region_held3 (fun W => Below V4.heap.size V4 W ∧ (∀ i, W.cell? ⟨g, i, none⟩ = (#[.int .i64 x1.r.id, .slice x1.A x1.r.names.length x1.c, .int .u8 x1.r.suf, .int .i64 x1.r.lo, .int .i64 x1.r.hi, .string x1.r.num, .bool x1.r.twin, .slice x1.D x1.r.stays.length x1.d, .int .i64 x2.r.id, .slice x2.A x2.r.names.length x2.c, .int .u8 x2.r.suf, .int .i64 x2.r.lo, .int .i64 x2.r.hi, .string x2.r.num, .bool x2.r.twin, .slice x2.D x2.r.stays.length x2.d, .int .i64 x3.r.id, .slice x3.A x3.r.names.length x3.c, .int .u8 x3.r.suf, .int .i64 x3.r.lo, .int .i64 x3.r.hi, .string x3.r.num, .bool x3.r.twin, .slice x3.D x3.r.stays.length x3.d, .int .i64 x4.r.id, .slice x4.A x4.r.names.length x4.c, .int .u8 x4.r.suf, .int .i64 x4.r.lo, .int .i64 x4.r.hi, .string x4.r.num, .bool x4.r.twin, .slice x4.D x4.r.stays.length x4.d, .int .i64 x5.r.id, .slice x5.A x5.r.names.length x5.c, .int .u8 x5.r.suf, .int .i64 x5.r.lo, .int .i64 x5.r.hi, .string x5.r.num, .bool x5.r.twin, .slice x5.D x5.r.stays.length x5.d] : Array Value)[i]?)) ((refine SK _ ?_; repeat (first | with_reducible assumption | with_reducible exact Below.refl _ _ | with_reducible refine Below.drew ?_ | with_reducible refine Below.alloc ?_ (by first | omega | (simp; done) | (simp; omega)) _ | with_reducible refine Below.setCell ?_ (by first | omega | (simp; done) | (simp; omega)) _)))
        (first
          | (go_at_call 9; (with_reducible refine (HR.out _).mono ?_); rintro e w1 ⟨rfl, h1⟩; have d1b := rulesB3 h1 (by with_reducible assumption); have hv1 := d1b.size; have hz1 := h1.size; (try (simp at hz1)); (try (have P1 := ((Blk.new V4 #[.int .u8 0, .int .u8 0, .int .u8 0, .int .u8 0, .int .u8 0] 30).drew).below h1 (by first | omega | (simp; done) | (simp; omega)); have P1c := P1.cell; have P1f := P1.free)); (try (have Q1 := fun hX => ((newAt' V4.drew #[.int .u8 0, .int .u8 0, .int .u8 0, .int .u8 0, .int .u8 0] 30 rfl)).below h1 hX)))
          | (go_at_call 8; (with_reducible refine (HC.out _ ?_).mono ?_); exact hpV.lateS (by with_reducible assumption); rintro e w2 ⟨rfl, h2⟩; have d2b := rulesB3 h2 (by with_reducible assumption); have hz2 := h2.size; (try (simp at hz2)); have hv2 := d2b.size; (try (have R1 := P1.below h2 (by first | omega | (simp; done) | (simp; omega)); have R1c := R1.cell; have R1f := R1.free)); (try (have R3 := (Blk.new w1 #[.int .u8 0, .int .u8 0, .int .u8 0, .int .u8 0, .int .u8 0] 30).below h2 (by first | omega | (simp; done) | (simp; omega)); have R3c := R3.cell; have R3f := R3.free))))
      all_goals first | (go_step; go_step; go_meet) | (go_step; go_meet) | go_meet
      all_goals (with_reducible refine matAt_of (t := 30) ?_ (heldB (by with_reducible assumption)))
      all_goals first | with_reducible exact Blk.new _ _ _ | with_reducible exact Blk.row5Z (by with_reducible assumption) _ _ _ _ _
    case rest =>
      obtain ⟨b3, rfl, rfl, l3, g3, hbc⟩ := hcut
      have G3 : Hid (MatIn wc b3 #[.int .u8 3, .int .u8 1, .int .u8 3, .int .u8 3, .int .u8 2]) := Lib.hid ⟨l3, g3⟩
      have G2' := Lib.hid (G2.out.later hbc)
      clear G2
      have G2 := G2'
      clear G2'
      have hpW := hpV.later hbc
      have hbW := hbV.trans (hbc.mono hbV.size)
      clear hpV hbV hbc SK kP dd0 HC l3 g3
      have hpV := hpW
      have hbV := hbW
      clear hpW hbW
      generalize wc = V5 at *
      go_upto_region 5 with fail
      have SK : ∀ W, Below V5.heap.size V5 W → Below V5.heap.size V5 W ∧ (∀ i, W.cell? ⟨g, i, none⟩ = (#[.int .i64 x1.r.id, .slice x1.A x1.r.names.length x1.c, .int .u8 x1.r.suf, .int .i64 x1.r.lo, .int .i64 x1.r.hi, .string x1.r.num, .bool x1.r.twin, .slice x1.D x1.r.stays.length x1.d, .int .i64 x2.r.id, .slice x2.A x2.r.names.length x2.c, .int .u8 x2.r.suf, .int .i64 x2.r.lo, .int .i64 x2.r.hi, .string x2.r.num, .bool x2.r.twin, .slice x2.D x2.r.stays.length x2.d, .int .i64 x3.r.id, .slice x3.A x3.r.names.length x3.c, .int .u8 x3.r.suf, .int .i64 x3.r.lo, .int .i64 x3.r.hi, .string x3.r.num, .bool x3.r.twin, .slice x3.D x3.r.stays.length x3.d, .int .i64 x4.r.id, .slice x4.A x4.r.names.length x4.c, .int .u8 x4.r.suf, .int .i64 x4.r.lo, .int .i64 x4.r.hi, .string x4.r.num, .bool x4.r.twin, .slice x4.D x4.r.stays.length x4.d, .int .i64 x5.r.id, .slice x5.A x5.r.names.length x5.c, .int .u8 x5.r.suf, .int .i64 x5.r.lo, .int .i64 x5.r.hi, .string x5.r.num, .bool x5.r.twin, .slice x5.D x5.r.stays.length x5.d] : Array Value)[i]?) := fun W hW => ⟨hW, (hpV.later hW).blk.cell⟩
      have kP := hpV.blk.cell
      have dd0 : Below V5.heap.size V5 V5.drew := (Below.refl _ _).drew
      have HC := Lib.hid (fun W (hW : PeopleAt W g x1 x2 x3 x4 x5) => compC (x1 := x1) (x2 := x4) W (M := ⟨3, 1, 0, 3, 0⟩) (by rw [hwho.e1, hwho.e4]; exact cmpC4) (by rw [hwho.e1]; decide) (by rw [hwho.e4]; decide) (hW.recs x1 (by simp)).1 (hW.recs x4 (by simp)).1 (hW.recs x1 (by simp)).2 (hW.recs x4 (by simp)).2)
      dsimp only at HC
      go_cut [8, 9] (fun s5 s6 wx => MatAt V5 #[.int .u8 3, .int .u8 1, .int .u8 0, .int .u8 3, .int .u8 0] s5 s6 wx)
      case first =>
        go_region_held3 (fun W => Below V5.heap.size V5 W ∧ (∀ i, W.cell? ⟨g, i, none⟩ = (#[.int .i64 x1.r.id, .slice x1.A x1.r.names.length x1.c, .int .u8 x1.r.suf, .int .i64 x1.r.lo, .int .i64 x1.r.hi, .string x1.r.num, .bool x1.r.twin, .slice x1.D x1.r.stays.length x1.d, .int .i64 x2.r.id, .slice x2.A x2.r.names.length x2.c, .int .u8 x2.r.suf, .int .i64 x2.r.lo, .int .i64 x2.r.hi, .string x2.r.num, .bool x2.r.twin, .slice x2.D x2.r.stays.length x2.d, .int .i64 x3.r.id, .slice x3.A x3.r.names.length x3.c, .int .u8 x3.r.suf, .int .i64 x3.r.lo, .int .i64 x3.r.hi, .string x3.r.num, .bool x3.r.twin, .slice x3.D x3.r.stays.length x3.d, .int .i64 x4.r.id, .slice x4.A x4.r.names.length x4.c, .int .u8 x4.r.suf, .int .i64 x4.r.lo, .int .i64 x4.r.hi, .string x4.r.num, .bool x4.r.twin, .slice x4.D x4.r.stays.length x4.d, .int .i64 x5.r.id, .slice x5.A x5.r.names.length x5.c, .int .u8 x5.r.suf, .int .i64 x5.r.lo, .int .i64 x5.r.hi, .string x5.r.num, .bool x5.r.twin, .slice x5.D x5.r.stays.length x5.d] : Array Value)[i]?)) ((refine SK _ ?_; repeat (first | with_reducible assumption | with_reducible exact Below.refl _ _ | with_reducible refine Below.drew ?_ | with_reducible refine Below.alloc ?_ (by first | omega | (simp; done) | (simp; omega)) _ | with_reducible refine Below.setCell ?_ (by first | omega | (simp; done) | (simp; omega)) _)))
          (first
            | (go_at_call 9; (with_reducible refine (HR.out _).mono ?_); rintro e w1 ⟨rfl, h1⟩; have d1b := rulesB3 h1 (by with_reducible assumption); have hv1 := d1b.size; have hz1 := h1.size; (try (simp at hz1)); (try (have P1 := ((Blk.new V5 #[.int .u8 0, .int .u8 0, .int .u8 0, .int .u8 0, .int .u8 0] 30).drew).below h1 (by first | omega | (simp; done) | (simp; omega)); have P1c := P1.cell; have P1f := P1.free)); (try (have Q1 := fun hX => ((newAt' V5.drew #[.int .u8 0, .int .u8 0, .int .u8 0, .int .u8 0, .int .u8 0] 30 rfl)).below h1 hX)))
            | (go_at_call 8; (with_reducible refine (HC.out _ ?_).mono ?_); exact hpV.lateS (by with_reducible assumption); rintro e w2 ⟨rfl, h2⟩; have d2b := rulesB3 h2 (by with_reducible assumption); have hz2 := h2.size; (try (simp at hz2)); have hv2 := d2b.size; (try (have R1 := P1.below h2 (by first | omega | (simp; done) | (simp; omega)); have R1c := R1.cell; have R1f := R1.free)); (try (have R3 := (Blk.new w1 #[.int .u8 0, .int .u8 0, .int .u8 0, .int .u8 0, .int .u8 0] 30).below h2 (by first | omega | (simp; done) | (simp; omega)); have R3c := R3.cell; have R3f := R3.free))))
        all_goals first | (go_step; go_step; go_meet) | (go_step; go_meet) | go_meet
        all_goals (with_reducible refine matAt_of (t := 30) ?_ (heldB (by with_reducible assumption)))
        all_goals first | with_reducible exact Blk.new _ _ _ | with_reducible exact Blk.row5Z (by with_reducible assumption) _ _ _ _ _
      case rest =>
        obtain ⟨b4, rfl, rfl, l4, g4, hbc⟩ := hcut
        have G4 : Hid (MatIn wc b4 #[.int .u8 3, .int .u8 1, .int .u8 0, .int .u8 3, .int .u8 0]) := Lib.hid ⟨l4, g4⟩
        have G2' := Lib.hid (G2.out.later hbc)
        clear G2
        have G2 := G2'
        clear G2'
        have G3' := Lib.hid (G3.out.later hbc)
        clear G3
        have G3 := G3'
        clear G3'
        have hpW := hpV.later hbc
        have hbW := hbV.trans (hbc.mono hbV.size)
        clear hpV hbV hbc SK kP dd0 HC l4 g4
        have hpV := hpW
        have hbV := hbW
        clear hpW hbW
        generalize wc = V6 at *
        go_upto_region 6 with fail
        have dd0 : Below V6.heap.size V6 V6.drew := (Below.refl _ _).drew
        have HPr := Lib.hid (fun W hW => pairsC W g (hpV.later hW).three hwho.e1 hwho.e2 hwho.e3)
        go_cut [10, 11, 12] (fun s10 s11 s12 wx => PairsAt V6 s10 s11 s12 wx)
        case first =>
          go_region_held3 (fun W => Below V6.heap.size V6 W) ((repeat (first | with_reducible assumption | with_reducible exact Below.refl _ _ | with_reducible refine Below.drew ?_)))
            (first
              | (go_at_call 9; (with_reducible refine (HR.out _).mono ?_); rintro e w1 ⟨rfl, h1⟩; have d1b := rulesB2 h1 (by with_reducible assumption))
              | (go_at_call 10; (with_reducible refine (HPr.out _ ?_).mono ?_); (with_reducible assumption); rintro e w2 ⟨A4, c4, A5, c5, rfl, hq, h2⟩; have d2b := rulesB2 h2 (by with_reducible assumption)))
          all_goals first | (go_step; go_step; go_meet) | (go_step; go_meet) | go_meet
          all_goals exact ⟨A4, c4, A5, c5, rfl, rfl, rfl, hq.out.1, hq.out.2, d2b⟩
        case rest =>
          obtain ⟨A4, c4, A5, c5, rfl, rfl, rfl, q4, q5, hbc⟩ := hcut
          have HH := Lib.hid (homesC wc g (hpV.later hbc).list hwho)
          have G2' := Lib.hid (G2.out.later hbc)
          have G3' := Lib.hid (G3.out.later hbc)
          have G4' := Lib.hid (G4.out.later hbc)
          have hbW := hbV.trans (hbc.mono hbV.size)
          have Q4 := Lib.hid q4
          have Q5 := Lib.hid q5
          clear hpV hbV hbc dd0 HPr q4 q5 G2 G3 G4 HR
          generalize wc = V7 at *
          go_upto_region 8 with (go_at_call 11; (with_reducible refine (HH.out).mono ?_); rintro e w8 ⟨A8, c8, rfl, hq8, h8⟩)
          have g2 := (G2'.out.later h8).2
          have g3 := (G3'.out.later h8).2
          have g4 := (G4'.out.later h8).2
          have HS1 := Lib.hid (fun W hb => sameC1 c4 (Q4.out.later h8) W hb)
          have HS2 := Lib.hid (fun W hb => sameC2 c5 (Q5.out.later h8) W hb)
          have HS3 := Lib.hid (fun W hb => sameC3 c8 hq8.out W hb)
          have hb8 := hbW.trans (h8.mono hbW.size)
          clear hbW h8 HH Q4 Q5 G2' G3' G4' hq8
          go_wp2_with (first
            | (go_at_call 12; (with_reducible refine (HS1.out _ (Below.refl _ _)).mono ?_); rintro e w9 ⟨rfl, h9⟩)
            | (go_at_call 12; (with_reducible refine (HS2.out _ h9).mono ?_); rintro e w10 ⟨rfl, h10⟩; have e10 := h9.trans (h10.mono h9.size))
            | (go_at_call 13; (with_reducible refine (HS3.out _ e10).mono ?_); rintro e w11 ⟨rfl, h11⟩; have e11 := e10.trans (h11.mono e10.size)))
          go_ret
          exact ⟨rfl, hb8.trans (e11.mono hb8.size)⟩

end Go.Proofs.YtoinegfcodnjhaaGreatDoor

namespace Go.Proofs.YtoinegfcodnjhaaGreatDoor
open Go.RowKit Go.Maps

theorem RecAt.after {w0 : World} {B : Nat} {A D : Option Addr} {r : Rec} (h : RecAt w0 B A D r) (hB : B ≤ w0.heap.size) (x : After B w0) : RecAt x.val x.val.heap.size A D r :=
  (h.below x.property).more (Nat.le_trans hB x.property.size)

theorem recInfo : (Tryz.prog.info? 41).map (fun i => (i.zero, i.size, i.bytes)) = some (some (.agg #[.int .i64 0, .slice none 0 0, .int .u8 0, .int .i64 0, .int .i64 0, .string ByteArray.empty, .bool false, .slice none 0 0]), 8, 104) := by kernel_rfl

theorem recCells_len : ∀ l : List RD, (l.flatMap recCells).length = l.length * 8
  | [] => rfl
  | x :: l => by rw [List.flatMap_cons, List.length_append, recCells_len l]; simp [recCells]; omega
theorem recCells_set (l : List RD) (k : Nat) (hk : k < l.length) (y : RD) : (((((((((l.flatMap recCells).set (k * 8) (.int .i64 y.r.id)).set (k * 8 + 1) (.slice y.A y.r.names.length y.c)).set (k * 8 + 2) (.int .u8 y.r.suf)).set (k * 8 + 3) (.int .i64 y.r.lo)).set (k * 8 + 4) (.int .i64 y.r.hi)).set (k * 8 + 5) (.string y.r.num)).set (k * 8 + 6) (.bool y.r.twin)).set (k * 8 + 7) (.slice y.D y.r.stays.length y.d)) = (l.set k y).flatMap recCells := by
  apply List.ext_getElem?
  intro j
  obtain ⟨q, i, hi, rfl⟩ : ∃ q i, i < 8 ∧ j = q * 8 + i := ⟨j / 8, j % 8, by omega, by omega⟩
  by_cases hq : q < l.length
  · rw [recCells_get (l.set k y) q (by simpa using hq) i hi]
    by_cases hqk : k = q
    · subst hqk
      have h8 : k * 8 + 7 < (l.flatMap recCells).length := by rw [recCells_len]; omega
      have hy : (l.set k y)[k]'(by simpa using hq) = y := by simp
      rw [hy]
      rcases (by omega : i = 0 ∨ i = 1 ∨ i = 2 ∨ i = 3 ∨ i = 4 ∨ i = 5 ∨ i = 6 ∨ i = 7) with rfl | rfl | rfl | rfl | rfl | rfl | rfl | rfl
      all_goals (generalize l.flatMap recCells = F at h8 ⊢; simp [List.getElem?_set, recCells]; omega)
    · have hy : (l.set k y)[q]'(by simpa using hq) = l[q] := by simp [hqk]
      rw [hy, ← recCells_get l q hq i hi]
      simp only [List.getElem?_set]
      repeat rw [if_neg (by omega)]
  · rw [List.getElem?_eq_none (by simp only [List.length_set]; rw [recCells_len]; omega), List.getElem?_eq_none (by rw [recCells_len]; simp; omega)]


/-- A record whose slices lie elsewhere than in block g. -/
structure RecNot (W : World) (g : Nat) (x : RD) : Prop where
  strs : ∀ k, (h : k < x.r.names.length) → ∃ b off, x.A = some ⟨b, off, none⟩ ∧ b < W.heap.size ∧ b ≠ g ∧ W.cell? ⟨b, off + k, none⟩ = some (.string x.r.names[k]) ∧ x.r.names[k].size ≤ maxLen
  stays : ∀ k, (h : k < x.r.stays.length) → ∃ b off, x.D = some ⟨b, off, none⟩ ∧ b < W.heap.size ∧ b ≠ g ∧ W.cell? ⟨b, off + k * 3, none⟩ = some (.int .i64 x.r.stays[k].p) ∧ W.cell? ⟨b, off + k * 3 + 1, none⟩ = some (.int .i64 x.r.stays[k].f) ∧ W.cell? ⟨b, off + k * 3 + 2, none⟩ = some (.int .i64 x.r.stays[k].t)
  names_le : x.r.names.length ≤ maxLen
  stays_le : x.r.stays.length ≤ maxLen
  num_le : x.r.num.size ≤ maxLen
  cap : x.r.names.length ≤ x.c
theorem RecNot.at_ {W : World} {g : Nat} {x : RD} (h : RecNot W g x) : RecAt W W.heap.size x.A x.D x.r :=
  ⟨fun k hk => by obtain ⟨b, off, e, h1, _, h2, h3⟩ := h.strs k hk; exact ⟨b, off, e, h1, h2, h3⟩, fun k hk => by obtain ⟨b, off, e, h1, _, h2, h3, h4⟩ := h.stays k hk; exact ⟨b, off, e, h1, h2, h3, h4⟩, h.names_le, h.stays_le, h.num_le⟩
theorem RecNot.move {W W' : World} {g : Nat} {x : RD} (h : RecNot W g x) (hz : W.heap.size ≤ W'.heap.size) (hk : ∀ b o, b < W.heap.size → b ≠ g → W'.cell? ⟨b, o, none⟩ = W.cell? ⟨b, o, none⟩) : RecNot W' g x :=
  ⟨fun k hl => by obtain ⟨b, off, e, h1, h0, h2, h3⟩ := h.strs k hl; exact ⟨b, off, e, by omega, h0, (hk _ _ h1 h0).trans h2, h3⟩, fun k hl => by
    obtain ⟨b, off, e, h1, h0, h2, h3, h4⟩ := h.stays k hl
    exact ⟨b, off, e, by omega, h0, (hk _ _ h1 h0).trans h2, (hk _ _ h1 h0).trans h3, (hk _ _ h1 h0).trans h4⟩, h.names_le, h.stays_le, h.num_le, h.cap⟩
theorem RecNot.set {W : World} {g : Nat} {x : RD} (h : RecNot W g x) (j : Nat) (v : Value) : RecNot (W.setCell ⟨g, j, none⟩ v) g x :=
  h.move (by simp) fun b o _ hb => World.cell?_of_block (heap_setCell_other W ⟨g, j, none⟩ b v hb)
theorem RecNot.below {W W' : World} {g : Nat} {x : RD} (h : RecNot W g x) (hb : Below W.heap.size W W') : RecNot W' g x := h.move hb.size fun b o h1 _ => hb.cell (p := ⟨b, o, none⟩) h1
theorem RecNot.of_at {w W : World} {g : Nat} {x : RD} (h : RecAt w w.heap.size x.A x.D x.r) (hc : x.r.names.length ≤ x.c) (hg : w.heap.size ≤ g) (hb : Below w.heap.size w W) : RecNot W g x :=
  ⟨fun k hk => by obtain ⟨b, off, e, h1, h2, h3⟩ := h.strs k hk; exact ⟨b, off, e, Nat.lt_of_lt_of_le h1 hb.size, by omega, (hb.cell (p := ⟨b, _, none⟩) h1).trans h2, h3⟩, fun k hk => by
    obtain ⟨b, off, e, h1, h2, h3, h4⟩ := h.stays k hk
    exact ⟨b, off, e, Nat.lt_of_lt_of_le h1 hb.size, by omega, (hb.cell (p := ⟨b, _, none⟩) h1).trans h2, (hb.cell (p := ⟨b, _, none⟩) h1).trans h3, (hb.cell (p := ⟨b, _, none⟩) h1).trans h4⟩, h.names_le, h.stays_le, h.num_le, hc⟩
theorem RecNot.of_in {W : World} {g lo : Nat} {x : RD} (h : RecIn W lo W.heap.size x.A x.D x.r) (hc : x.r.names.length ≤ x.c) (hg : g < lo) : RecNot W g x :=
  ⟨fun k hk => by obtain ⟨b, off, e, h0, h1, h2, h3⟩ := h.strs k hk; exact ⟨b, off, e, h1, by omega, h2, h3⟩, fun k hk => by
    obtain ⟨b, off, e, h0, h1, h2, h3, h4⟩ := h.stays k hk
    exact ⟨b, off, e, h1, by omega, h2, h3, h4⟩, h.names_le, h.stays_le, h.num_le, hc⟩

theorem Recs.none_ {w : World} {B : Nat} {l : List RD} (h : Recs w B none l) : l.length = 0 := by
  rcases Nat.eq_zero_or_pos l.length with e | e
  · exact e
  · obtain ⟨_, _, he, _⟩ := h 0 e; cases he
theorem Recs.news {w : World} {B : Nat} {A : Option Addr} {l : List RD} (h : Recs w B A l) : ∀ ad, A = some ad → ∀ j u, (l.flatMap recCells)[j]? = some u → w.cell? (ad.add j) = some u := fun ad e j u hj => by
  obtain ⟨q, i, hi, rfl⟩ : ∃ q i, i < 8 ∧ j = q * 8 + i := ⟨j / 8, j % 8, by omega, by omega⟩
  have hq : q < l.length := by
    have := (List.getElem?_eq_some_iff.1 hj).1
    rw [recCells_len] at this; omega
  obtain ⟨b, off, he, _, hc, _⟩ := h q hq
  rw [e] at he; cases he
  rw [WideShapes.add_plain, ← Nat.add_assoc, hc i hi]
  rw [recCells_get l q hq i hi] at hj
  rw [← hj]; simp [recCells]
theorem recCells_one (l : List RD) : ∀ u ∈ l.flatMap recCells, u.oneCell' = true := fun u hu => by
  simp only [List.mem_flatMap, recCells] at hu
  obtain ⟨x, _, hu⟩ := hu
  simp only [List.mem_cons, List.not_mem_nil, or_false] at hu
  rcases hu with rfl | rfl | rfl | rfl | rfl | rfl | rfl | rfl <;> rfl
theorem recs_own {W : World} {base : Nat} {A : Option Addr} {c : Nat} {l : List RD} (h : W.ownsRow base 41 8 (.slice A l.length c) l.length (l.flatMap recCells)) (hr : ∀ x ∈ l, RecAt W W.heap.size x.A x.D x.r ∧ x.r.names.length ≤ x.c) : Recs W W.heap.size A l := fun k hk => by
  obtain ⟨g, cap, hv, hb, hlt⟩ := h.form (by omega)
  simp only [Value.slice.injEq, true_and] at hv
  obtain ⟨rfl, rfl⟩ := hv
  refine ⟨g, 0, rfl, hlt, fun i hi => ?_, hr _ (List.getElem_mem hk)⟩
  rw [Nat.zero_add, h.cellAt (k * 8 + i) (by omega), recCells_get l k hk i hi]; simp [recCells]

/-- What holds while a list is taken over into new memory, the first i of it done. -/
def TW (l : List RD) (w W : World) (A1 : Option Addr) (c1 : Nat) : Prop := ∃ ml : List RD, ml.map RD.r = l.map RD.r ∧ W.ownsRow w.heap.size 41 8 (.slice A1 l.length c1) l.length (ml.flatMap recCells) ∧ (∀ g, A1 = some ⟨g, 0, none⟩ → ∀ x ∈ ml, RecNot W g x) ∧ Below w.heap.size w W

theorem tw_next {l ml : List RD} {w wr w2 : World} {g c1 i : Nat} {x : RD} {A2 D2 : Option Addr} {c2 d2 : Nat} (HML : ∀ y : RD, y.r = x.r → (ml.set i y).map RD.r = l.map RD.r)
    (HSet : ∀ y : RD, (((((((((ml.flatMap recCells).set (i * 8) (.int .i64 y.r.id)).set (i * 8 + 1) (.slice y.A y.r.names.length y.c)).set (i * 8 + 2) (.int .u8 y.r.suf)).set (i * 8 + 3) (.int .i64 y.r.lo)).set (i * 8 + 4) (.int .i64 y.r.hi)).set (i * 8 + 5) (.string y.r.num)).set (i * 8 + 6) (.bool y.r.twin)).set (i * 8 + 7) (.slice y.D y.r.stays.length y.d)) = (ml.set i y).flatMap recCells) (HR : ∀ z ∈ ml, RecNot wr g z) (hx : RecNot wr g x)
    (hown : wr.ownsRow w.heap.size 41 8 (.slice (some ⟨g, 0, none⟩) l.length c1) l.length (ml.flatMap recCells)) (hbel : Below w.heap.size w wr)
    (oN : w2.ownsRow wr.heap.size 9 1 (.slice A2 x.r.names.length c2) x.r.names.length (x.r.names.map Value.string)) (oS : w2.ownsRow wr.heap.size 55 3 (.slice D2 x.r.stays.length d2) x.r.stays.length (stayCells x.r.stays)) (hb2 : Below wr.heap.size wr w2) (hc2 : x.r.names.length ≤ c2) :
    TW l w ((((((((w2.setCell ⟨g, i * 8, none⟩ (.int .i64 x.r.id)).setCell ⟨g, i * 8 + 1, none⟩ (.slice A2 x.r.names.length c2)).setCell ⟨g, i * 8 + 2, none⟩ (.int .u8 x.r.suf)).setCell ⟨g, i * 8 + 3, none⟩ (.int .i64 x.r.lo)).setCell ⟨g, i * 8 + 4, none⟩ (.int .i64 x.r.hi)).setCell ⟨g, i * 8 + 5, none⟩ (.string x.r.num)).setCell ⟨g, i * 8 + 6, none⟩ (.bool x.r.twin)).setCell ⟨g, i * 8 + 7, none⟩ (.slice D2 x.r.stays.length d2)) (some ⟨g, 0, none⟩) c1 := by
  have own2 := own_below hown hb2
  have hglt : g < wr.heap.size := (hown.lt g rfl).2
  have hgb : w.heap.size ≤ g := (hown.lt g rfl).1
  have hy : RecNot w2 g ⟨x.r, A2, c2, D2, d2⟩ := RecNot.of_in (lo := wr.heap.size) ⟨strsIn_of_own (Nat.le_refl _) oN (fun s hs => by
    obtain ⟨k, hk, rfl⟩ := List.getElem_of_mem hs
    obtain ⟨_, _, _, _, _, _, g⟩ := hx.strs k hk
    exact g), staysIn_of_own (Nat.le_refl _) oS, hx.names_le, hx.stays_le, hx.num_le⟩ hc2 hglt
  refine ⟨ml.set i ⟨x.r, A2, c2, D2, d2⟩, HML ⟨x.r, A2, c2, D2, d2⟩ rfl, ?_, fun g' hg' z hz => ?_, ?_⟩
  · have := ((((((((own2.stored (i * 8) (.int .i64 x.r.id)).1.stored (i * 8 + 1) (.slice A2 x.r.names.length c2)).1.stored (i * 8 + 2) (.int .u8 x.r.suf)).1.stored (i * 8 + 3) (.int .i64 x.r.lo)).1.stored (i * 8 + 4) (.int .i64 x.r.hi)).1.stored (i * 8 + 5) (.string x.r.num)).1.stored (i * 8 + 6) (.bool x.r.twin)).1.stored (i * 8 + 7) (.slice D2 x.r.stays.length d2)).1
    rw [← HSet ⟨x.r, A2, c2, D2, d2⟩]
    exact this
  · cases hg'
    rcases List.mem_or_eq_of_mem_set hz with h1 | h1
    · have hx := (HR z h1).below hb2
      exact ((((((((hx.set (i * 8) (.int .i64 x.r.id)).set (i * 8 + 1) (.slice A2 x.r.names.length c2)).set (i * 8 + 2) (.int .u8 x.r.suf)).set (i * 8 + 3) (.int .i64 x.r.lo)).set (i * 8 + 4) (.int .i64 x.r.hi)).set (i * 8 + 5) (.string x.r.num)).set (i * 8 + 6) (.bool x.r.twin)).set (i * 8 + 7) (.slice D2 x.r.stays.length d2))
    · subst h1
      have hx := hy
      exact ((((((((hx.set (i * 8) (.int .i64 x.r.id)).set (i * 8 + 1) (.slice A2 x.r.names.length c2)).set (i * 8 + 2) (.int .u8 x.r.suf)).set (i * 8 + 3) (.int .i64 x.r.lo)).set (i * 8 + 4) (.int .i64 x.r.hi)).set (i * 8 + 5) (.string x.r.num)).set (i * 8 + 6) (.bool x.r.twin)).set (i * 8 + 7) (.slice D2 x.r.stays.length d2))
  · have e : Below w.heap.size w w2 := hbel.trans (hb2.mono hbel.size)
    exact (((((((e.setCell (by show w.heap.size ≤ g; omega) _).setCell (by show w.heap.size ≤ g; omega) _).setCell (by show w.heap.size ≤ g; omega) _).setCell (by show w.heap.size ≤ g; omega) _).setCell (by show w.heap.size ≤ g; omega) _).setCell (by show w.heap.size ≤ g; omega) _).setCell (by show w.heap.size ≤ g; omega) _).setCell (by show w.heap.size ≤ g; omega) _

/-- A list in new memory, which reads as the other one. -/
def TwinPost (w : World) (l : List RD) (e : Ending) (w' : World) : Prop := ∃ A' c' l', e = .returned (.slice A' l.length c') ∧ Hid (l'.map RD.r = l.map RD.r ∧ Recs w' w'.heap.size A' l') ∧ Below w.heap.size w w'

end Go.Proofs.YtoinegfcodnjhaaGreatDoor

namespace Go.Proofs.YtoinegfcodnjhaaGreatDoor
open Go.RowKit

set_option maxRecDepth 100000 in
theorem small10 (w : World) : Calls Tryz.prog 67 #[.int .i64 10] w fun e w' => e = .returned (.string { data := #[49, 48] }) ∧ w = w' := by
  go_enter Tryz.func67, Tryz.ntmps67
  go_wp2_with fail
  go_ret
  exact ⟨by simp <;> decide +kernel, rfl⟩
theorem format10 (w : World) : Calls Tryz.prog 48 #[.int .i64 10, .int .i64 10] w fun e w' => e = .returned (.string { data := #[49, 48] }) ∧ w = w' := by
  go_enter Tryz.func48, Tryz.ntmps48
  go_wp2_with (go_at_call 67; with_reducible refine (small10 _).mono ?_; rintro e w' ⟨rfl, rfl⟩)
  go_ret
  exact ⟨rfl, rfl⟩
theorem itoa10i (w : World) : Calls Tryz.prog 31 #[.int .i64 10] w fun e w' => e = .returned (.string { data := #[49, 48] }) ∧ w = w' := by
  go_enter Tryz.func31, Tryz.ntmps31
  go_wp2_with (go_at_call 48; with_reducible refine (format10 _).mono ?_; rintro e w' ⟨rfl, rfl⟩)
  go_ret
  exact ⟨rfl, rfl⟩
theorem itoa10 (w : World) : Calls Tryz.prog 14 #[.int .i64 10] w fun e w' => e = .returned (.string { data := #[49, 48] }) ∧ w = w' := by
  go_enter Tryz.func14, Tryz.ntmps14
  go_wp2_with (go_at_call 31; with_reducible refine (itoa10i _).mono ?_; rintro e w' ⟨rfl, rfl⟩)
  go_ret
  exact ⟨rfl, rfl⟩
theorem error10 (w : World) : Calls Tryz.prog 5 #[.int .i64 10] w fun e w' => e = .returned (.string { data := #[101, 114, 114, 111, 114, 32, 49, 48] }) ∧ w = w' := by
  go_enter Tryz.func5, Tryz.ntmps5
  go_wp2_with (go_at_call 14; with_reducible refine (itoa10 _).mono ?_; rintro e w' ⟨rfl, rfl⟩)
  go_ret
  exact ⟨rfl, rfl⟩

end Go.Proofs.YtoinegfcodnjhaaGreatDoor

namespace Go.Proofs.YtoinegfcodnjhaaGreatDoor
open Go.RowKit

def recZ : Rec := ⟨0, [], 0, 0, 0, { data := #[] }, false, []⟩
def rdZ : RD := ⟨recZ, none, 0, none, 0⟩
theorem exEdits1 (W : World) : Calls Tryz.prog 7 #[.string { data := #[] }, .string { data := #[65, 66] }] W fun e w' => e = .returned (.tuple #[.int .i64 2, .int .i64 0]) ∧ Below W.heap.size W w' := by
  have h := edits2_any { data := #[] } { data := #[65, 66] } W
  have e1 : edN { data := #[] } { data := #[65, 66] } = 2 := by
    rw [edN, if_pos (by decide +kernel), levF]; decide +kernel
  have e2 : edE { data := #[] } { data := #[65, 66] } = 0 := by decide +kernel
  rw [e1, e2] at h
  exact h
theorem exEdits2 (W : World) : Calls Tryz.prog 7 #[.string { data := #[] }, .string { data := #[65, 66, 67, 68, 69, 70, 71, 72, 73, 74, 75, 76, 77, 78, 79, 80, 81, 82, 83, 84, 85] }] W fun e w' => e = .returned (.tuple #[.int .i64 0, .int .i64 2]) ∧ Below W.heap.size W w' := by
  have h := edits2_any { data := #[] } { data := #[65, 66, 67, 68, 69, 70, 71, 72, 73, 74, 75, 76, 77, 78, 79, 80, 81, 82, 83, 84, 85] } W
  have e1 : edN { data := #[] } { data := #[65, 66, 67, 68, 69, 70, 71, 72, 73, 74, 75, 76, 77, 78, 79, 80, 81, 82, 83, 84, 85] } = 0 := by
    rw [edN, if_neg (by decide +kernel)]
  have e2 : edE { data := #[] } { data := #[65, 66, 67, 68, 69, 70, 71, 72, 73, 74, 75, 76, 77, 78, 79, 80, 81, 82, 83, 84, 85] } = 2 := by decide +kernel
  rw [e1, e2] at h
  exact h
theorem cmpC45 : cmpM rulC recC4 recC5 = ⟨3, 1, 0, 1, 0⟩ ∧ cmpE rulC recC4 recC5 = 0 := by decide +kernel
theorem cmpC15 : cmpM rulC recC1 recC5 = ⟨3, 0, 3, 1, 0⟩ ∧ cmpE rulC recC1 recC5 = 0 := by decide +kernel
theorem exRules {x1 x2 : RD} (W : World) (e1 : x1.r = recC1) (e2 : x2.r = recC2) (h1 : RecAt W W.heap.size x1.A x1.D x1.r) (h2 : RecAt W W.heap.size x2.A x2.D x2.r) (n1 : x1.r.names.length ≤ x1.c) (n2 : x2.r.names.length ≤ x2.c) :
    Calls Tryz.prog 8 #[.agg #[.int .i64 0, .int .i64 0, .int .i64 0, .int .i64 0], .agg #[.int .i64 x1.r.id, .slice x1.A x1.r.names.length x1.c, .int .u8 x1.r.suf, .int .i64 x1.r.lo, .int .i64 x1.r.hi, .string x1.r.num, .bool x1.r.twin, .slice x1.D x1.r.stays.length x1.d], .agg #[.int .i64 x2.r.id, .slice x2.A x2.r.names.length x2.c, .int .u8 x2.r.suf, .int .i64 x2.r.lo, .int .i64 x2.r.hi, .string x2.r.num, .bool x2.r.twin, .slice x2.D x2.r.stays.length x2.d]] W fun e w' => e = .returned (.tuple #[.agg #[.int .u8 0, .int .u8 0, .int .u8 0, .int .u8 0, .int .u8 0], .int .i64 10]) ∧ Below W.heap.size W w' := by
  have h := compare_any ⟨0, 0, 0, 0⟩ x1.r x2.r x1.A x2.A x1.D x2.D x1.c x2.c x1.d x2.d W (by rw [e1]; decide) (by rw [e2]; decide) h1 h2 n1 n2
  have hE : cmpE ⟨0, 0, 0, 0⟩ x1.r x2.r = 10 := by rw [e1, e2]; decide +kernel
  rw [cmpM_bad (by rw [hE]; decide), hE] at h
  exact h
theorem exRecord {x1 : RD} (W : World) (e1 : x1.r = recC1) (h1 : RecAt W W.heap.size x1.A x1.D x1.r) (n1 : x1.r.names.length ≤ x1.c) :
    Calls Tryz.prog 8 #[.agg #[.int .i64 2, .int .i64 1, .int .i64 30, .int .i64 10], .agg #[.int .i64 x1.r.id, .slice x1.A x1.r.names.length x1.c, .int .u8 x1.r.suf, .int .i64 x1.r.lo, .int .i64 x1.r.hi, .string x1.r.num, .bool x1.r.twin, .slice x1.D x1.r.stays.length x1.d], .agg #[.int .i64 0, .slice none 0 0, .int .u8 0, .int .i64 0, .int .i64 0, .string { data := #[] }, .bool false, .slice none 0 0]] W fun e w' => e = .returned (.tuple #[.agg #[.int .u8 0, .int .u8 0, .int .u8 0, .int .u8 0, .int .u8 0], .int .i64 11]) ∧ Below W.heap.size W w' := by
  have hz : RecAt W W.heap.size none none recZ := ⟨fun k hk => by simp [recZ] at hk, fun k hk => by simp [recZ] at hk, by simp [recZ, maxLen], by simp [recZ, maxLen], by decide +kernel⟩
  have h := compare_any rulC x1.r recZ x1.A none x1.D none x1.c 0 x1.d 0 W (by rw [e1]; decide) (by decide) h1 hz n1 (by decide)
  have hE : cmpE rulC x1.r recZ = 11 := by rw [e1]; decide +kernel
  rw [cmpM_bad (by rw [hE]; decide), hE] at h
  exact h
theorem exSix {l6 : List RD} (W : World) (A : Option Addr) (c : Nat) (h : Recs W W.heap.size A l6) (hl : l6.map RD.r = peopleC ++ [recC1]) :
    Calls Tryz.prog 10 #[.agg #[.int .i64 2, .int .i64 1, .int .i64 30, .int .i64 10], .slice A 6 c] W fun e w' => ∃ v4 v5, e = .returned (.tuple #[v4, v5, .int .i64 12]) ∧ Below W.heap.size W w' := by
  have hn : l6.length = 6 := by simpa [peopleC] using congrArg List.length hl
  have hp := pairs_any rulC l6 A c W h (by rw [hn]; simp [maxLen]) (by rw [hl]; decide +kernel)
  rw [hl, hn, show pairsE rulC (peopleC ++ [recC1]) = 12 by decide +kernel] at hp
  exact hp.mono fun e w' ⟨v4, v5, he, _, _, hb⟩ => ⟨v4, v5, he, hb⟩
theorem exMany (W : World) (A : Option Addr) (c : Nat) (h : Recs W W.heap.size A (List.replicate 25 rdZ)) :
    Calls Tryz.prog 10 #[.agg #[.int .i64 2, .int .i64 1, .int .i64 30, .int .i64 10], .slice A 25 c] W fun e w' => ∃ v4 v5, e = .returned (.tuple #[v4, v5, .int .i64 4]) ∧ Below W.heap.size W w' := by
  have hp := pairs_any rulC (List.replicate 25 rdZ) A c W h (by simp [maxLen]) (by decide +kernel)
  rw [show pairsE rulC ((List.replicate 25 rdZ).map RD.r) = 4 by decide +kernel, List.length_replicate] at hp
  exact hp.mono fun e w' ⟨v4, v5, he, _, _, hb⟩ => ⟨v4, v5, he, hb⟩
theorem exHomes {x1 x2 x3 x4 x5 : RD} (W : World) (g : Nat) (h : Recs W W.heap.size (some ⟨g, 0, none⟩) [x1, x2, x3, x4, x5]) (hw : WhoC x1 x2 x3 x4 x5) :
    Calls Tryz.prog 11 #[.slice (some ⟨g, 0, none⟩) 5 5, .int .i64 (-1)] W fun e w' => ∃ v, e = .returned (.tuple #[v, .int .i64 2]) ∧ Below W.heap.size W w' := by
  have hl : [x1, x2, x3, x4, x5].map RD.r = peopleC := by simp [hw.e1, hw.e2, hw.e3, hw.e4, hw.e5, peopleC]
  have hp := homes_any (-1) [x1, x2, x3, x4, x5] (some ⟨g, 0, none⟩) 5 W h (by simp [maxLen])
  rw [hl, show homesE (-1) peopleC = 2 by decide +kernel] at hp
  exact hp.mono fun e w' ⟨A, c, he, _, hb⟩ => ⟨_, he, hb⟩
theorem zeroRecs {W : World} {g : Nat} {cs : Array Value} (h : Blk W g cs 41) (hc : cs.toList = (List.replicate 25 rdZ).flatMap recCells) : Recs W W.heap.size (some ⟨g, 0, none⟩) (List.replicate 25 rdZ) :=
  recs_of h h.lt hc fun x hx => by
    obtain rfl := List.eq_of_mem_replicate hx
    exact ⟨⟨fun k hk => by simp [rdZ, recZ] at hk, fun k hk => by simp [rdZ, recZ] at hk, by simp [rdZ, recZ, maxLen], by simp [rdZ, recZ, maxLen], by decide +kernel⟩, Nat.zero_le _⟩
def zeroCells : Array Value := ((List.replicate 25 rdZ).flatMap recCells).toArray
theorem zeroCells_list : zeroCells.toList = (List.replicate 25 rdZ).flatMap recCells := by simp [zeroCells]
theorem zeroMade (W : World) : (Instr.makeSlice 25 (.int .i64 25) (.int .i64 25)).run Tryz.prog W = .ok (.slice (some ⟨W.heap.size, 0, none⟩) 25 25) (W.alloc (.cells zeroCells 41)) := by kernel_rfl
theorem below_grown {w w' : World} (hg : w.grownBy w' none) : Below w.heap.size w w' := (Below.refl w.heap.size w).grown hg (Nat.le_refl _) (fun k e => by cases e)
theorem PeopleAt.six {w w' : World} {g : Nat} {y1 y2 y3 y4 y5 x1 : RD} {A : Option Addr} {c : Nat} (hy : PeopleAt w g y1 y2 y3 y4 y5) (hx : RecAt w w.heap.size x1.A x1.D x1.r) (hc : x1.r.names.length ≤ x1.c) (hb : Below w.heap.size w w')
    (hown : w'.ownsRow w.heap.size 41 8 (.slice A 6 c) 6 ([y1, y2, y3, y4, y5].flatMap recCells ++ recCells x1)) : Recs w' w'.heap.size A [y1, y2, y3, y4, y5, x1] := by
  refine recs_own (base := w.heap.size) (c := c) ?_ fun z hz => ?_
  · have e : [y1, y2, y3, y4, y5, x1].flatMap recCells = [y1, y2, y3, y4, y5].flatMap recCells ++ recCells x1 := by simp
    rw [e]; exact hown
  · have hz' : z ∈ [y1, y2, y3, y4, y5] ∨ z = x1 := by simpa [or_assoc] using hz
    rcases hz' with h1 | rfl
    · exact ⟨(hy.recs z h1).1.later hb, (hy.recs z h1).2⟩
    · exact ⟨hx.later hb, hc⟩

end Go.Proofs.YtoinegfcodnjhaaGreatDoor

namespace Go.Proofs.YtoinegfcodnjhaaGreatDoor
open Go.RowKit

def ErrAt (V : World) (E : Int) (s : Value) (W : World) : Prop := s = .int .i64 E ∧ Below V.heap.size V W

set_option maxRecDepth 100000 in
set_option maxHeartbeats 16000000 in
theorem matchExamples_any (w : World) : Calls Tryz.prog 3 #[] w fun e w' => e = .returned (.bool true) ∧ Below w.heap.size w w' := by
  have HQ := Lib.hid (fun W => alive_any W)
  have HP := Lib.hid (fun W => lawPeople_any W)
  have HE1 := Lib.hid (fun W => exEdits1 W)
  have HE2 := Lib.hid (fun W => exEdits2 W)
  have HR := Lib.hid (fun W => lawRules_any W)
  go_enter Tryz.func3, Tryz.ntmps3
  go_upto_region 6 with (first
    | (go_at_call 4; (with_reducible refine (HQ.out _).mono ?_); rintro e w1 ⟨rfl, h1⟩)
    | (go_at_call 5; (with_reducible refine (error10 _).mono ?_); rintro e w9 ⟨rfl, rfl⟩)
    | (go_at_call 6; (with_reducible refine (HP.out _).mono ?_); rintro e w2 ⟨g, x1, x2, x3, x4, x5, rfl, hwho, hp2, h2⟩)
    | (go_at_call 7; (with_reducible refine (HE1.out _).mono ?_); rintro e w3 ⟨rfl, h3⟩)
    | (go_at_call 7; (with_reducible refine (HE2.out _).mono ?_); rintro e w4 ⟨rfl, h4⟩))
  have h34 := h3.trans (h4.mono h3.size)
  have hpV := hp2.later h34
  have hbV := (h1.trans (h2.mono h1.size)).trans (h34.mono (h1.trans (h2.mono h1.size)).size)
  clear h1 h2 h3 h4 h34 hp2 HE1 HE2 HQ
  generalize w4 = V3 at *
  have SK : ∀ W, Below V3.heap.size V3 W → Below V3.heap.size V3 W ∧ (∀ i, W.cell? ⟨g, i, none⟩ = (#[.int .i64 x1.r.id, .slice x1.A x1.r.names.length x1.c, .int .u8 x1.r.suf, .int .i64 x1.r.lo, .int .i64 x1.r.hi, .string x1.r.num, .bool x1.r.twin, .slice x1.D x1.r.stays.length x1.d, .int .i64 x2.r.id, .slice x2.A x2.r.names.length x2.c, .int .u8 x2.r.suf, .int .i64 x2.r.lo, .int .i64 x2.r.hi, .string x2.r.num, .bool x2.r.twin, .slice x2.D x2.r.stays.length x2.d, .int .i64 x3.r.id, .slice x3.A x3.r.names.length x3.c, .int .u8 x3.r.suf, .int .i64 x3.r.lo, .int .i64 x3.r.hi, .string x3.r.num, .bool x3.r.twin, .slice x3.D x3.r.stays.length x3.d, .int .i64 x4.r.id, .slice x4.A x4.r.names.length x4.c, .int .u8 x4.r.suf, .int .i64 x4.r.lo, .int .i64 x4.r.hi, .string x4.r.num, .bool x4.r.twin, .slice x4.D x4.r.stays.length x4.d, .int .i64 x5.r.id, .slice x5.A x5.r.names.length x5.c, .int .u8 x5.r.suf, .int .i64 x5.r.lo, .int .i64 x5.r.hi, .string x5.r.num, .bool x5.r.twin, .slice x5.D x5.r.stays.length x5.d] : Array Value)[i]?) := fun W hW => ⟨hW, (hpV.later hW).blk.cell⟩
  have kP := hpV.blk.cell
  have dd0 : Below V3.heap.size V3 V3.drew := (Below.refl _ _).drew
  have HC := Lib.hid (fun W (hW : PeopleAt W g x1 x2 x3 x4 x5) => compC (x1 := x4) (x2 := x5) W (M := ⟨3, 1, 0, 1, 0⟩) (by rw [hwho.e4, hwho.e5]; exact cmpC45) (by rw [hwho.e4]; decide) (by rw [hwho.e5]; decide) (hW.recs x4 (by simp)).1 (hW.recs x5 (by simp)).1 (hW.recs x4 (by simp)).2 (hW.recs x5 (by simp)).2)
  dsimp only at HC
  go_cut [6, 7] (fun s5 s6 wx => MatAt V3 #[.int .u8 3, .int .u8 1, .int .u8 0, .int .u8 1, .int .u8 0] s5 s6 wx)
  case first =>
    go_region_held3 (fun W => Below V3.heap.size V3 W ∧ (∀ i, W.cell? ⟨g, i, none⟩ = (#[.int .i64 x1.r.id, .slice x1.A x1.r.names.length x1.c, .int .u8 x1.r.suf, .int .i64 x1.r.lo, .int .i64 x1.r.hi, .string x1.r.num, .bool x1.r.twin, .slice x1.D x1.r.stays.length x1.d, .int .i64 x2.r.id, .slice x2.A x2.r.names.length x2.c, .int .u8 x2.r.suf, .int .i64 x2.r.lo, .int .i64 x2.r.hi, .string x2.r.num, .bool x2.r.twin, .slice x2.D x2.r.stays.length x2.d, .int .i64 x3.r.id, .slice x3.A x3.r.names.length x3.c, .int .u8 x3.r.suf, .int .i64 x3.r.lo, .int .i64 x3.r.hi, .string x3.r.num, .bool x3.r.twin, .slice x3.D x3.r.stays.length x3.d, .int .i64 x4.r.id, .slice x4.A x4.r.names.length x4.c, .int .u8 x4.r.suf, .int .i64 x4.r.lo, .int .i64 x4.r.hi, .string x4.r.num, .bool x4.r.twin, .slice x4.D x4.r.stays.length x4.d, .int .i64 x5.r.id, .slice x5.A x5.r.names.length x5.c, .int .u8 x5.r.suf, .int .i64 x5.r.lo, .int .i64 x5.r.hi, .string x5.r.num, .bool x5.r.twin, .slice x5.D x5.r.stays.length x5.d] : Array Value)[i]?)) ((refine SK _ ?_; repeat (first | with_reducible assumption | with_reducible exact Below.refl _ _ | with_reducible refine Below.drew ?_ | with_reducible refine Below.alloc ?_ (by first | omega | (simp; done) | (simp; omega)) _ | with_reducible refine Below.setCell ?_ (by first | omega | (simp; done) | (simp; omega)) _)))
      (first
        | (go_at_call 9; (with_reducible refine (HR.out _).mono ?_); rintro e w1 ⟨rfl, h1⟩; have d1b := rulesB3 h1 (by with_reducible assumption); have hv1 := d1b.size; have hz1 := h1.size; (try (simp at hz1)); (try (have P1 := ((Blk.new V3 #[.int .u8 0, .int .u8 0, .int .u8 0, .int .u8 0, .int .u8 0] 30).drew).below h1 (by first | omega | (simp; done) | (simp; omega)); have P1c := P1.cell; have P1f := P1.free)); (try (have Q1 := fun hX => ((newAt' V3.drew #[.int .u8 0, .int .u8 0, .int .u8 0, .int .u8 0, .int .u8 0] 30 rfl)).below h1 hX)))
        | (go_at_call 8; (with_reducible refine (HC.out _ ?_).mono ?_); exact hpV.lateS (by with_reducible assumption); rintro e w2 ⟨rfl, h2⟩; have d2b := rulesB3 h2 (by with_reducible assumption); have hz2 := h2.size; (try (simp at hz2)); have hv2 := d2b.size; (try (have R1 := P1.below h2 (by first | omega | (simp; done) | (simp; omega)); have R1c := R1.cell; have R1f := R1.free)); (try (have R3 := (Blk.new w1 #[.int .u8 0, .int .u8 0, .int .u8 0, .int .u8 0, .int .u8 0] 30).below h2 (by first | omega | (simp; done) | (simp; omega)); have R3c := R3.cell; have R3f := R3.free))))
    all_goals first | (go_step; go_step; go_meet) | (go_step; go_meet) | go_meet
    all_goals (with_reducible refine matAt_of (t := 30) ?_ (heldB (by with_reducible assumption)))
    all_goals first | with_reducible exact Blk.new _ _ _ | with_reducible exact Blk.row5Z (by with_reducible assumption) _ _ _ _ _
  case rest =>
    obtain ⟨b6, rfl, rfl, l6, g6, hbc⟩ := hcut
    have G6 : Hid (MatIn wc b6 #[.int .u8 3, .int .u8 1, .int .u8 0, .int .u8 1, .int .u8 0]) := Lib.hid ⟨l6, g6⟩
    have hpW := hpV.later hbc
    have hbW := hbV.trans (hbc.mono hbV.size)
    clear hpV hbV hbc SK kP dd0 HC l6 g6
    have hpV := hpW
    have hbV := hbW
    clear hpW hbW
    generalize wc = V4 at *
    go_upto_region 7 with fail
    have SK : ∀ W, Below V4.heap.size V4 W → Below V4.heap.size V4 W ∧ (∀ i, W.cell? ⟨g, i, none⟩ = (#[.int .i64 x1.r.id, .slice x1.A x1.r.names.length x1.c, .int .u8 x1.r.suf, .int .i64 x1.r.lo, .int .i64 x1.r.hi, .string x1.r.num, .bool x1.r.twin, .slice x1.D x1.r.stays.length x1.d, .int .i64 x2.r.id, .slice x2.A x2.r.names.length x2.c, .int .u8 x2.r.suf, .int .i64 x2.r.lo, .int .i64 x2.r.hi, .string x2.r.num, .bool x2.r.twin, .slice x2.D x2.r.stays.length x2.d, .int .i64 x3.r.id, .slice x3.A x3.r.names.length x3.c, .int .u8 x3.r.suf, .int .i64 x3.r.lo, .int .i64 x3.r.hi, .string x3.r.num, .bool x3.r.twin, .slice x3.D x3.r.stays.length x3.d, .int .i64 x4.r.id, .slice x4.A x4.r.names.length x4.c, .int .u8 x4.r.suf, .int .i64 x4.r.lo, .int .i64 x4.r.hi, .string x4.r.num, .bool x4.r.twin, .slice x4.D x4.r.stays.length x4.d, .int .i64 x5.r.id, .slice x5.A x5.r.names.length x5.c, .int .u8 x5.r.suf, .int .i64 x5.r.lo, .int .i64 x5.r.hi, .string x5.r.num, .bool x5.r.twin, .slice x5.D x5.r.stays.length x5.d] : Array Value)[i]?) := fun W hW => ⟨hW, (hpV.later hW).blk.cell⟩
    have kP := hpV.blk.cell
    have dd0 : Below V4.heap.size V4 V4.drew := (Below.refl _ _).drew
    have HC := Lib.hid (fun W (hW : PeopleAt W g x1 x2 x3 x4 x5) => compC (x1 := x1) (x2 := x5) W (M := ⟨3, 0, 3, 1, 0⟩) (by rw [hwho.e1, hwho.e5]; exact cmpC15) (by rw [hwho.e1]; decide) (by rw [hwho.e5]; decide) (hW.recs x1 (by simp)).1 (hW.recs x5 (by simp)).1 (hW.recs x1 (by simp)).2 (hW.recs x5 (by simp)).2)
    dsimp only at HC
    go_cut [8, 9] (fun s5 s6 wx => MatAt V4 #[.int .u8 3, .int .u8 0, .int .u8 3, .int .u8 1, .int .u8 0] s5 s6 wx)
    case first =>
      go_region_held3 (fun W => Below V4.heap.size V4 W ∧ (∀ i, W.cell? ⟨g, i, none⟩ = (#[.int .i64 x1.r.id, .slice x1.A x1.r.names.length x1.c, .int .u8 x1.r.suf, .int .i64 x1.r.lo, .int .i64 x1.r.hi, .string x1.r.num, .bool x1.r.twin, .slice x1.D x1.r.stays.length x1.d, .int .i64 x2.r.id, .slice x2.A x2.r.names.length x2.c, .int .u8 x2.r.suf, .int .i64 x2.r.lo, .int .i64 x2.r.hi, .string x2.r.num, .bool x2.r.twin, .slice x2.D x2.r.stays.length x2.d, .int .i64 x3.r.id, .slice x3.A x3.r.names.length x3.c, .int .u8 x3.r.suf, .int .i64 x3.r.lo, .int .i64 x3.r.hi, .string x3.r.num, .bool x3.r.twin, .slice x3.D x3.r.stays.length x3.d, .int .i64 x4.r.id, .slice x4.A x4.r.names.length x4.c, .int .u8 x4.r.suf, .int .i64 x4.r.lo, .int .i64 x4.r.hi, .string x4.r.num, .bool x4.r.twin, .slice x4.D x4.r.stays.length x4.d, .int .i64 x5.r.id, .slice x5.A x5.r.names.length x5.c, .int .u8 x5.r.suf, .int .i64 x5.r.lo, .int .i64 x5.r.hi, .string x5.r.num, .bool x5.r.twin, .slice x5.D x5.r.stays.length x5.d] : Array Value)[i]?)) ((refine SK _ ?_; repeat (first | with_reducible assumption | with_reducible exact Below.refl _ _ | with_reducible refine Below.drew ?_ | with_reducible refine Below.alloc ?_ (by first | omega | (simp; done) | (simp; omega)) _ | with_reducible refine Below.setCell ?_ (by first | omega | (simp; done) | (simp; omega)) _)))
        (first
          | (go_at_call 9; (with_reducible refine (HR.out _).mono ?_); rintro e w1 ⟨rfl, h1⟩; have d1b := rulesB3 h1 (by with_reducible assumption); have hv1 := d1b.size; have hz1 := h1.size; (try (simp at hz1)); (try (have P1 := ((Blk.new V4 #[.int .u8 0, .int .u8 0, .int .u8 0, .int .u8 0, .int .u8 0] 30).drew).below h1 (by first | omega | (simp; done) | (simp; omega)); have P1c := P1.cell; have P1f := P1.free)); (try (have Q1 := fun hX => ((newAt' V4.drew #[.int .u8 0, .int .u8 0, .int .u8 0, .int .u8 0, .int .u8 0] 30 rfl)).below h1 hX)))
          | (go_at_call 8; (with_reducible refine (HC.out _ ?_).mono ?_); exact hpV.lateS (by with_reducible assumption); rintro e w2 ⟨rfl, h2⟩; have d2b := rulesB3 h2 (by with_reducible assumption); have hz2 := h2.size; (try (simp at hz2)); have hv2 := d2b.size; (try (have R1 := P1.below h2 (by first | omega | (simp; done) | (simp; omega)); have R1c := R1.cell; have R1f := R1.free)); (try (have R3 := (Blk.new w1 #[.int .u8 0, .int .u8 0, .int .u8 0, .int .u8 0, .int .u8 0] 30).below h2 (by first | omega | (simp; done) | (simp; omega)); have R3c := R3.cell; have R3f := R3.free))))
      all_goals first | (go_step; go_step; go_meet) | (go_step; go_meet) | go_meet
      all_goals (with_reducible refine matAt_of (t := 30) ?_ (heldB (by with_reducible assumption)))
      all_goals first | with_reducible exact Blk.new _ _ _ | with_reducible exact Blk.row5Z (by with_reducible assumption) _ _ _ _ _
    case rest =>
      obtain ⟨b7, rfl, rfl, l7, g7, hbc⟩ := hcut
      have G7 : Hid (MatIn wc b7 #[.int .u8 3, .int .u8 0, .int .u8 3, .int .u8 1, .int .u8 0]) := Lib.hid ⟨l7, g7⟩
      have G6' := Lib.hid (G6.out.later hbc)
      clear G6
      have G6 := G6'
      clear G6'
      have hpW := hpV.later hbc
      have hbW := hbV.trans (hbc.mono hbV.size)
      clear hpV hbV hbc SK kP dd0 HC l7 g7
      have hpV := hpW
      have hbV := hbW
      clear hpW hbW
      generalize wc = V5 at *
      go_upto_region 8 with fail
      obtain ⟨i0, hi0, iz0, iz1, iz2⟩ := info_parts recInfo
      have SK : ∀ W, Below V5.heap.size V5 W → Below V5.heap.size V5 W ∧ (∀ i, W.cell? ⟨g, i, none⟩ = (#[.int .i64 x1.r.id, .slice x1.A x1.r.names.length x1.c, .int .u8 x1.r.suf, .int .i64 x1.r.lo, .int .i64 x1.r.hi, .string x1.r.num, .bool x1.r.twin, .slice x1.D x1.r.stays.length x1.d, .int .i64 x2.r.id, .slice x2.A x2.r.names.length x2.c, .int .u8 x2.r.suf, .int .i64 x2.r.lo, .int .i64 x2.r.hi, .string x2.r.num, .bool x2.r.twin, .slice x2.D x2.r.stays.length x2.d, .int .i64 x3.r.id, .slice x3.A x3.r.names.length x3.c, .int .u8 x3.r.suf, .int .i64 x3.r.lo, .int .i64 x3.r.hi, .string x3.r.num, .bool x3.r.twin, .slice x3.D x3.r.stays.length x3.d, .int .i64 x4.r.id, .slice x4.A x4.r.names.length x4.c, .int .u8 x4.r.suf, .int .i64 x4.r.lo, .int .i64 x4.r.hi, .string x4.r.num, .bool x4.r.twin, .slice x4.D x4.r.stays.length x4.d, .int .i64 x5.r.id, .slice x5.A x5.r.names.length x5.c, .int .u8 x5.r.suf, .int .i64 x5.r.lo, .int .i64 x5.r.hi, .string x5.r.num, .bool x5.r.twin, .slice x5.D x5.r.stays.length x5.d] : Array Value)[i]?) := fun W hW => ⟨hW, (hpV.later hW).blk.cell⟩
      have kP := hpV.blk.cell
      have dd0 : Below V5.heap.size V5 V5.drew := (Below.refl _ _).drew
      have HX := Lib.hid (fun W l6 A c h hl => exSix (l6 := l6) W A c h hl)
      go_cut [12] (fun s wx => ErrAt V5 12 s wx)
      case first =>
        go_region_held3 (fun W => Below V5.heap.size V5 W ∧ (∀ i, W.cell? ⟨g, i, none⟩ = (#[.int .i64 x1.r.id, .slice x1.A x1.r.names.length x1.c, .int .u8 x1.r.suf, .int .i64 x1.r.lo, .int .i64 x1.r.hi, .string x1.r.num, .bool x1.r.twin, .slice x1.D x1.r.stays.length x1.d, .int .i64 x2.r.id, .slice x2.A x2.r.names.length x2.c, .int .u8 x2.r.suf, .int .i64 x2.r.lo, .int .i64 x2.r.hi, .string x2.r.num, .bool x2.r.twin, .slice x2.D x2.r.stays.length x2.d, .int .i64 x3.r.id, .slice x3.A x3.r.names.length x3.c, .int .u8 x3.r.suf, .int .i64 x3.r.lo, .int .i64 x3.r.hi, .string x3.r.num, .bool x3.r.twin, .slice x3.D x3.r.stays.length x3.d, .int .i64 x4.r.id, .slice x4.A x4.r.names.length x4.c, .int .u8 x4.r.suf, .int .i64 x4.r.lo, .int .i64 x4.r.hi, .string x4.r.num, .bool x4.r.twin, .slice x4.D x4.r.stays.length x4.d, .int .i64 x5.r.id, .slice x5.A x5.r.names.length x5.c, .int .u8 x5.r.suf, .int .i64 x5.r.lo, .int .i64 x5.r.hi, .string x5.r.num, .bool x5.r.twin, .slice x5.D x5.r.stays.length x5.d] : Array Value)[i]?)) ((refine SK _ ?_; repeat (first | with_reducible assumption | with_reducible exact Below.refl _ _ | with_reducible refine Below.drew ?_ | with_reducible refine Below.alloc ?_ (by first | omega | (simp; done) | (simp; omega)) _ | with_reducible refine Below.setCell ?_ (by first | omega | (simp; done) | (simp; omega)) _)))
          (first
            | (go_at_call 9; (with_reducible refine (HR.out _).mono ?_); rintro e w1 ⟨rfl, h1⟩; have d1b := rulesB3 h1 (by with_reducible assumption); have hv1 := d1b.size; have hz1 := h1.size; (try (simp at hz1)); (try (have P1 : Blk w1 V5.heap.size #[.int .i64 x1.r.id, .slice x1.A x1.r.names.length x1.c, .int .u8 x1.r.suf, .int .i64 x1.r.lo, .int .i64 x1.r.hi, .string x1.r.num, .bool x1.r.twin, .slice x1.D x1.r.stays.length x1.d] 41 := (by with_reducible exact Blk.below (Blk.drew (Blk.new V5 _ _)) h1 (by first | omega | (simp; done) | (simp; omega))))))
            | (go_at_call 6; (with_reducible refine (HP.out _).mono ?_); rintro e w2 ⟨gy, y1, y2, y3, y4, y5, rfl, hwho2, hp2, h2⟩; have d2b := rulesB3 h2 (by with_reducible assumption); have hz2 := h2.size; (try (simp at hz2)); have hv2 := d2b.size; (try (have P2 : Blk w2 V5.heap.size #[.int .i64 x1.r.id, .slice x1.A x1.r.names.length x1.c, .int .u8 x1.r.suf, .int .i64 x1.r.lo, .int .i64 x1.r.hi, .string x1.r.num, .bool x1.r.twin, .slice x1.D x1.r.stays.length x1.d] 41 := (by with_reducible exact Blk.below P1 h2 (by first | omega | (simp; done) | (simp; omega))))); (try (have P3 : Blk w2 w1.heap.size #[.int .i64 x1.r.id, .slice x1.A x1.r.names.length x1.c, .int .u8 x1.r.suf, .int .i64 x1.r.lo, .int .i64 x1.r.hi, .string x1.r.num, .bool x1.r.twin, .slice x1.D x1.r.stays.length x1.d] 41 := (by with_reducible exact Blk.below (Blk.new w1 _ _) h2 (by first | omega | (simp; done) | (simp; omega))))))
            | (refine step_append_grows (by rfl) _ _ _ (by rfl) 41 i0 _ 8 104 Tryz.underlying25 hi0 iz0 iz1 iz2 rfl (by decide) (some ⟨gy, 0, none⟩) 5 5 ([y1, y2, y3, y4, y5].flatMap recCells) (by rfl) (fun h => by cases h) (recCells_len _) (Recs.news (PeopleAt.list (hp2.later (Below.refl _ _)))) ⟨V5.heap.size, 0, none⟩ 1 1 (recCells x1) (by rfl) (by rfl) (World.news_of_block P2) (by simpa using recCells_one [x1]) (by omega) (by simp [maxLen]) (by omega) ?_; intro v3 w3 hown3 hg3; have d3b := rulesB2 (below_grown hg3) (d2b.trans ((Below.refl _ _).mono hv2)); have hown6 : w3.ownsRow (w2).heap.size 41 8 v3 6 ([y1, y2, y3, y4, y5].flatMap recCells ++ recCells x1) := hown3; obtain ⟨A6, c6, rfl⟩ := own_slice hown6; have hxx := (hpV.later (d2b.trans ((Below.refl _ _).mono hv2))).recs x1 (by simp); have R6 := PeopleAt.six (hp2.later (Below.refl _ _)) hxx.1 hxx.2 (below_grown hg3) hown6)
            | (refine step_append_grows (by rfl) _ _ _ (by rfl) 41 i0 _ 8 104 Tryz.underlying25 hi0 iz0 iz1 iz2 rfl (by decide) (some ⟨gy, 0, none⟩) 5 5 ([y1, y2, y3, y4, y5].flatMap recCells) (by rfl) (fun h => by cases h) (recCells_len _) (Recs.news (PeopleAt.list (hp2.later (Below.refl _ _)))) ⟨w1.heap.size, 0, none⟩ 1 1 (recCells x1) (by rfl) (by rfl) (World.news_of_block P3) (by simpa using recCells_one [x1]) (by omega) (by simp [maxLen]) (by omega) ?_; intro v3 w3 hown3 hg3; have d3b := rulesB2 (below_grown hg3) (d2b.trans ((Below.refl _ _).mono hv2)); have hown6 : w3.ownsRow (w2).heap.size 41 8 v3 6 ([y1, y2, y3, y4, y5].flatMap recCells ++ recCells x1) := hown3; obtain ⟨A6, c6, rfl⟩ := own_slice hown6; have hxx := (hpV.later (d2b.trans ((Below.refl _ _).mono hv2))).recs x1 (by simp); have R6 := PeopleAt.six (hp2.later (Below.refl _ _)) hxx.1 hxx.2 (below_grown hg3) hown6)
            | (refine step_append_grows (by rfl) _ _ _ (by rfl) 41 i0 _ 8 104 Tryz.underlying25 hi0 iz0 iz1 iz2 rfl (by decide) (some ⟨gy, 0, none⟩) 5 5 ([y1, y2, y3, y4, y5].flatMap recCells) (by rfl) (fun h => by cases h) (recCells_len _) (Recs.news (PeopleAt.list (hp2.later ((Below.refl _ _).alloc (Nat.le_refl _) (.cells #[.int .i64 x1.r.id, .slice x1.A x1.r.names.length x1.c, .int .u8 x1.r.suf, .int .i64 x1.r.lo, .int .i64 x1.r.hi, .string x1.r.num, .bool x1.r.twin, .slice x1.D x1.r.stays.length x1.d] 41))))) ⟨w2.heap.size, 0, none⟩ 1 1 (recCells x1) (by rfl) (by rfl) (World.news_of_block (cs := #[.int .i64 x1.r.id, .slice x1.A x1.r.names.length x1.c, .int .u8 x1.r.suf, .int .i64 x1.r.lo, .int .i64 x1.r.hi, .string x1.r.num, .bool x1.r.twin, .slice x1.D x1.r.stays.length x1.d]) (t := 41) (fr := (0, 0)) (heap_alloc_new w2 _)) (by simpa using recCells_one [x1]) (by omega) (by simp [maxLen]) (by omega) ?_; intro v3 w3 hown3 hg3; have d3b := rulesB2 (below_grown hg3) (d2b.trans (((Below.refl _ _).alloc (Nat.le_refl _) (.cells #[.int .i64 x1.r.id, .slice x1.A x1.r.names.length x1.c, .int .u8 x1.r.suf, .int .i64 x1.r.lo, .int .i64 x1.r.hi, .string x1.r.num, .bool x1.r.twin, .slice x1.D x1.r.stays.length x1.d] 41)).mono hv2)); have hown6 : w3.ownsRow (w2.alloc (.cells #[.int .i64 x1.r.id, .slice x1.A x1.r.names.length x1.c, .int .u8 x1.r.suf, .int .i64 x1.r.lo, .int .i64 x1.r.hi, .string x1.r.num, .bool x1.r.twin, .slice x1.D x1.r.stays.length x1.d] 41)).heap.size 41 8 v3 6 ([y1, y2, y3, y4, y5].flatMap recCells ++ recCells x1) := hown3; obtain ⟨A6, c6, rfl⟩ := own_slice hown6; have hxx := (hpV.later (d2b.trans (((Below.refl _ _).alloc (Nat.le_refl _) (.cells #[.int .i64 x1.r.id, .slice x1.A x1.r.names.length x1.c, .int .u8 x1.r.suf, .int .i64 x1.r.lo, .int .i64 x1.r.hi, .string x1.r.num, .bool x1.r.twin, .slice x1.D x1.r.stays.length x1.d] 41)).mono hv2))).recs x1 (by simp); have R6 := PeopleAt.six (hp2.later ((Below.refl _ _).alloc (Nat.le_refl _) (.cells #[.int .i64 x1.r.id, .slice x1.A x1.r.names.length x1.c, .int .u8 x1.r.suf, .int .i64 x1.r.lo, .int .i64 x1.r.hi, .string x1.r.num, .bool x1.r.twin, .slice x1.D x1.r.stays.length x1.d] 41))) hxx.1 hxx.2 (below_grown hg3) hown6)
            | (go_at_call 10; (with_reducible refine (HX.out _ [y1, y2, y3, y4, y5, x1] A6 c6 R6 (by simp [hwho2.e1, hwho2.e2, hwho2.e3, hwho2.e4, hwho2.e5, hwho.e1, peopleC])).mono ?_); rintro e w4 ⟨v4, v5, rfl, h4⟩; have d4b := rulesB2 h4 d3b))
        all_goals first | (go_step; go_step; go_meet) | (go_step; go_meet) | go_meet
        all_goals exact ⟨rfl, heldB (by with_reducible assumption)⟩
      case rest =>
        obtain ⟨rfl, hbc⟩ := hcut
        have G6' := Lib.hid (G6.out.later hbc)
        clear G6
        have G6 := G6'
        clear G6'
        have G7' := Lib.hid (G7.out.later hbc)
        clear G7
        have G7 := G7'
        clear G7'
        have hpW := hpV.later hbc
        have hbW := hbV.trans (hbc.mono hbV.size)
        clear hpV hbV hbc SK kP dd0 HX
        have hpV := hpW
        have hbV := hbW
        clear hpW hbW
        generalize wc = V6 at *
        go_upto_region 9 with fail
        have SK : ∀ W, Below V6.heap.size V6 W → Below V6.heap.size V6 W ∧ (∀ i, W.cell? ⟨g, i, none⟩ = (#[.int .i64 x1.r.id, .slice x1.A x1.r.names.length x1.c, .int .u8 x1.r.suf, .int .i64 x1.r.lo, .int .i64 x1.r.hi, .string x1.r.num, .bool x1.r.twin, .slice x1.D x1.r.stays.length x1.d, .int .i64 x2.r.id, .slice x2.A x2.r.names.length x2.c, .int .u8 x2.r.suf, .int .i64 x2.r.lo, .int .i64 x2.r.hi, .string x2.r.num, .bool x2.r.twin, .slice x2.D x2.r.stays.length x2.d, .int .i64 x3.r.id, .slice x3.A x3.r.names.length x3.c, .int .u8 x3.r.suf, .int .i64 x3.r.lo, .int .i64 x3.r.hi, .string x3.r.num, .bool x3.r.twin, .slice x3.D x3.r.stays.length x3.d, .int .i64 x4.r.id, .slice x4.A x4.r.names.length x4.c, .int .u8 x4.r.suf, .int .i64 x4.r.lo, .int .i64 x4.r.hi, .string x4.r.num, .bool x4.r.twin, .slice x4.D x4.r.stays.length x4.d, .int .i64 x5.r.id, .slice x5.A x5.r.names.length x5.c, .int .u8 x5.r.suf, .int .i64 x5.r.lo, .int .i64 x5.r.hi, .string x5.r.num, .bool x5.r.twin, .slice x5.D x5.r.stays.length x5.d] : Array Value)[i]?) := fun W hW => ⟨hW, (hpV.later hW).blk.cell⟩
        have kP := hpV.blk.cell
        have dd0 : Below V6.heap.size V6 V6.drew := (Below.refl _ _).drew
        have hmk : ∀ W : World, (Instr.makeSlice 25 (.int .i64 25) (.int .i64 25)).run Tryz.prog W = .ok (.slice (some ⟨W.heap.size, 0, none⟩) 25 25) (W.alloc (.cells zeroCells 41)) := zeroMade
        have HM := Lib.hid (fun W A c h => exMany W A c h)
        go_cut [15] (fun s wx => ErrAt V6 4 s wx)
        case first =>
          go_region_held3 (fun W => Below V6.heap.size V6 W ∧ (∀ i, W.cell? ⟨g, i, none⟩ = (#[.int .i64 x1.r.id, .slice x1.A x1.r.names.length x1.c, .int .u8 x1.r.suf, .int .i64 x1.r.lo, .int .i64 x1.r.hi, .string x1.r.num, .bool x1.r.twin, .slice x1.D x1.r.stays.length x1.d, .int .i64 x2.r.id, .slice x2.A x2.r.names.length x2.c, .int .u8 x2.r.suf, .int .i64 x2.r.lo, .int .i64 x2.r.hi, .string x2.r.num, .bool x2.r.twin, .slice x2.D x2.r.stays.length x2.d, .int .i64 x3.r.id, .slice x3.A x3.r.names.length x3.c, .int .u8 x3.r.suf, .int .i64 x3.r.lo, .int .i64 x3.r.hi, .string x3.r.num, .bool x3.r.twin, .slice x3.D x3.r.stays.length x3.d, .int .i64 x4.r.id, .slice x4.A x4.r.names.length x4.c, .int .u8 x4.r.suf, .int .i64 x4.r.lo, .int .i64 x4.r.hi, .string x4.r.num, .bool x4.r.twin, .slice x4.D x4.r.stays.length x4.d, .int .i64 x5.r.id, .slice x5.A x5.r.names.length x5.c, .int .u8 x5.r.suf, .int .i64 x5.r.lo, .int .i64 x5.r.hi, .string x5.r.num, .bool x5.r.twin, .slice x5.D x5.r.stays.length x5.d] : Array Value)[i]?)) ((refine SK _ ?_; repeat (first | with_reducible assumption | with_reducible exact Below.refl _ _ | with_reducible refine Below.drew ?_ | with_reducible refine Below.alloc ?_ (by first | omega | (simp; done) | (simp; omega)) _ | with_reducible refine Below.setCell ?_ (by first | omega | (simp; done) | (simp; omega)) _)))
            (first
              | (go_at_call 9; (with_reducible refine (HR.out _).mono ?_); rintro e w1 ⟨rfl, h1⟩; have d1b := rulesB3 h1 (by with_reducible assumption); have hv1 := d1b.size; have hz1 := h1.size; (try (simp at hz1)); (try (have P1 : Blk w1 V6.heap.size zeroCells 41 := (by with_reducible exact Blk.below (Blk.drew (Blk.new V6 _ _)) h1 (by first | omega | (simp; done) | (simp; omega))))))
              | (go_at_call 10; (with_reducible refine (HM.out _ (some ⟨V6.heap.size, 0, none⟩) 25 (zeroRecs P1 zeroCells_list)).mono ?_); rintro e w4 ⟨v4, v5, rfl, h4⟩; have d4b := rulesB3 h4 (by with_reducible assumption))
              | (go_at_call 10; (with_reducible refine (HM.out _ (some ⟨w1.heap.size, 0, none⟩) 25 (zeroRecs (Blk.new w1 _ _) zeroCells_list)).mono ?_); rintro e w4 ⟨v4, v5, rfl, h4⟩; have d4b := rulesB3 h4 (by with_reducible assumption)))
          all_goals first | (go_step; go_step; go_meet) | (go_step; go_meet) | go_meet
          all_goals exact ⟨rfl, heldB (by with_reducible assumption)⟩
        case rest =>
          obtain ⟨rfl, hbc⟩ := hcut
          have G6' := Lib.hid (G6.out.later hbc)
          clear G6
          have G6 := G6'
          clear G6'
          have G7' := Lib.hid (G7.out.later hbc)
          clear G7
          have G7 := G7'
          clear G7'
          have hpW := hpV.later hbc
          have hbW := hbV.trans (hbc.mono hbV.size)
          clear hpV hbV hbc SK kP dd0 HM hmk
          have hpV := hpW
          have hbV := hbW
          clear hpW hbW
          generalize wc = V7 at *
          have HH := Lib.hid (exHomes V7 g hpV.list hwho)
          go_upto_region 11 with (go_at_call 11; (with_reducible refine (HH.out).mono ?_); rintro e w8 ⟨v8, rfl, hbc⟩)
          have G6' := Lib.hid (G6.out.later hbc)
          clear G6
          have G6 := G6'
          clear G6'
          have G7' := Lib.hid (G7.out.later hbc)
          clear G7
          have G7 := G7'
          clear G7'
          have hpW := hpV.later hbc
          have hbW := hbV.trans (hbc.mono hbV.size)
          clear hpV hbV hbc HH
          have hpV := hpW
          have hbV := hbW
          clear hpW hbW
          generalize w8 = V8 at *
          have SK : ∀ W, Below V8.heap.size V8 W → Below V8.heap.size V8 W ∧ (∀ i, W.cell? ⟨g, i, none⟩ = (#[.int .i64 x1.r.id, .slice x1.A x1.r.names.length x1.c, .int .u8 x1.r.suf, .int .i64 x1.r.lo, .int .i64 x1.r.hi, .string x1.r.num, .bool x1.r.twin, .slice x1.D x1.r.stays.length x1.d, .int .i64 x2.r.id, .slice x2.A x2.r.names.length x2.c, .int .u8 x2.r.suf, .int .i64 x2.r.lo, .int .i64 x2.r.hi, .string x2.r.num, .bool x2.r.twin, .slice x2.D x2.r.stays.length x2.d, .int .i64 x3.r.id, .slice x3.A x3.r.names.length x3.c, .int .u8 x3.r.suf, .int .i64 x3.r.lo, .int .i64 x3.r.hi, .string x3.r.num, .bool x3.r.twin, .slice x3.D x3.r.stays.length x3.d, .int .i64 x4.r.id, .slice x4.A x4.r.names.length x4.c, .int .u8 x4.r.suf, .int .i64 x4.r.lo, .int .i64 x4.r.hi, .string x4.r.num, .bool x4.r.twin, .slice x4.D x4.r.stays.length x4.d, .int .i64 x5.r.id, .slice x5.A x5.r.names.length x5.c, .int .u8 x5.r.suf, .int .i64 x5.r.lo, .int .i64 x5.r.hi, .string x5.r.num, .bool x5.r.twin, .slice x5.D x5.r.stays.length x5.d] : Array Value)[i]?) := fun W hW => ⟨hW, (hpV.later hW).blk.cell⟩
          have kP := hpV.blk.cell
          have dd0 : Below V8.heap.size V8 V8.drew := (Below.refl _ _).drew
          have HC := Lib.hid (fun W (hW : PeopleAt W g x1 x2 x3 x4 x5) => exRules (x1 := x1) (x2 := x2) W hwho.e1 hwho.e2 (hW.recs x1 (by simp)).1 (hW.recs x2 (by simp)).1 (hW.recs x1 (by simp)).2 (hW.recs x2 (by simp)).2)
          go_cut [19] (fun s wx => ErrAt V8 10 s wx)
          case first =>
            go_region_held3 (fun W => Below V8.heap.size V8 W ∧ (∀ i, W.cell? ⟨g, i, none⟩ = (#[.int .i64 x1.r.id, .slice x1.A x1.r.names.length x1.c, .int .u8 x1.r.suf, .int .i64 x1.r.lo, .int .i64 x1.r.hi, .string x1.r.num, .bool x1.r.twin, .slice x1.D x1.r.stays.length x1.d, .int .i64 x2.r.id, .slice x2.A x2.r.names.length x2.c, .int .u8 x2.r.suf, .int .i64 x2.r.lo, .int .i64 x2.r.hi, .string x2.r.num, .bool x2.r.twin, .slice x2.D x2.r.stays.length x2.d, .int .i64 x3.r.id, .slice x3.A x3.r.names.length x3.c, .int .u8 x3.r.suf, .int .i64 x3.r.lo, .int .i64 x3.r.hi, .string x3.r.num, .bool x3.r.twin, .slice x3.D x3.r.stays.length x3.d, .int .i64 x4.r.id, .slice x4.A x4.r.names.length x4.c, .int .u8 x4.r.suf, .int .i64 x4.r.lo, .int .i64 x4.r.hi, .string x4.r.num, .bool x4.r.twin, .slice x4.D x4.r.stays.length x4.d, .int .i64 x5.r.id, .slice x5.A x5.r.names.length x5.c, .int .u8 x5.r.suf, .int .i64 x5.r.lo, .int .i64 x5.r.hi, .string x5.r.num, .bool x5.r.twin, .slice x5.D x5.r.stays.length x5.d] : Array Value)[i]?)) ((refine SK _ ?_; repeat (first | with_reducible assumption | with_reducible exact Below.refl _ _ | with_reducible refine Below.drew ?_ | with_reducible refine Below.alloc ?_ (by first | omega | (simp; done) | (simp; omega)) _ | with_reducible refine Below.setCell ?_ (by first | omega | (simp; done) | (simp; omega)) _)))
              (first
                | (go_at_call 8; (with_reducible refine (HC.out _ ?_).mono ?_); exact hpV.lateS (by with_reducible assumption); rintro e w2 ⟨rfl, h2⟩; have d2b := rulesB3 h2 (by with_reducible assumption); have hz2 := h2.size; (try (simp at hz2)); have hv2 := d2b.size; (try (have R1 := ((Blk.new V8 #[.int .u8 0, .int .u8 0, .int .u8 0, .int .u8 0, .int .u8 0] 30).drew).below h2 (by first | omega | (simp; done) | (simp; omega)); have R1c := R1.cell; have R1f := R1.free)); (try (have R3 := ((newAt' V8.drew #[.int .u8 0, .int .u8 0, .int .u8 0, .int .u8 0, .int .u8 0] 30 rfl)).below h2 (by first | omega | (simp; done) | (simp; omega)); have R3c := R3.cell; have R3f := R3.free))))
            all_goals first | (go_step; go_step; go_meet) | (go_step; go_meet) | go_meet
            all_goals exact ⟨rfl, heldB (by with_reducible assumption)⟩
          case rest =>
            obtain ⟨rfl, hbc⟩ := hcut
            have G6' := Lib.hid (G6.out.later hbc)
            clear G6
            have G6 := G6'
            clear G6'
            have G7' := Lib.hid (G7.out.later hbc)
            clear G7
            have G7 := G7'
            clear G7'
            have hpW := hpV.later hbc
            have hbW := hbV.trans (hbc.mono hbV.size)
            clear hpV hbV hbc SK kP dd0 HC
            have hpV := hpW
            have hbV := hbW
            clear hpW hbW
            generalize wc = V9 at *
            go_upto_region 12 with fail
            have SK : ∀ W, Below V9.heap.size V9 W → Below V9.heap.size V9 W ∧ (∀ i, W.cell? ⟨g, i, none⟩ = (#[.int .i64 x1.r.id, .slice x1.A x1.r.names.length x1.c, .int .u8 x1.r.suf, .int .i64 x1.r.lo, .int .i64 x1.r.hi, .string x1.r.num, .bool x1.r.twin, .slice x1.D x1.r.stays.length x1.d, .int .i64 x2.r.id, .slice x2.A x2.r.names.length x2.c, .int .u8 x2.r.suf, .int .i64 x2.r.lo, .int .i64 x2.r.hi, .string x2.r.num, .bool x2.r.twin, .slice x2.D x2.r.stays.length x2.d, .int .i64 x3.r.id, .slice x3.A x3.r.names.length x3.c, .int .u8 x3.r.suf, .int .i64 x3.r.lo, .int .i64 x3.r.hi, .string x3.r.num, .bool x3.r.twin, .slice x3.D x3.r.stays.length x3.d, .int .i64 x4.r.id, .slice x4.A x4.r.names.length x4.c, .int .u8 x4.r.suf, .int .i64 x4.r.lo, .int .i64 x4.r.hi, .string x4.r.num, .bool x4.r.twin, .slice x4.D x4.r.stays.length x4.d, .int .i64 x5.r.id, .slice x5.A x5.r.names.length x5.c, .int .u8 x5.r.suf, .int .i64 x5.r.lo, .int .i64 x5.r.hi, .string x5.r.num, .bool x5.r.twin, .slice x5.D x5.r.stays.length x5.d] : Array Value)[i]?) := fun W hW => ⟨hW, (hpV.later hW).blk.cell⟩
            have kP := hpV.blk.cell
            have dd0 : Below V9.heap.size V9 V9.drew := (Below.refl _ _).drew
            have HC := Lib.hid (fun W (hW : PeopleAt W g x1 x2 x3 x4 x5) => exRecord (x1 := x1) W hwho.e1 (hW.recs x1 (by simp)).1 (hW.recs x1 (by simp)).2)
            go_cut [21] (fun s wx => ErrAt V9 11 s wx)
            case first =>
              go_region_held3 (fun W => Below V9.heap.size V9 W ∧ (∀ i, W.cell? ⟨g, i, none⟩ = (#[.int .i64 x1.r.id, .slice x1.A x1.r.names.length x1.c, .int .u8 x1.r.suf, .int .i64 x1.r.lo, .int .i64 x1.r.hi, .string x1.r.num, .bool x1.r.twin, .slice x1.D x1.r.stays.length x1.d, .int .i64 x2.r.id, .slice x2.A x2.r.names.length x2.c, .int .u8 x2.r.suf, .int .i64 x2.r.lo, .int .i64 x2.r.hi, .string x2.r.num, .bool x2.r.twin, .slice x2.D x2.r.stays.length x2.d, .int .i64 x3.r.id, .slice x3.A x3.r.names.length x3.c, .int .u8 x3.r.suf, .int .i64 x3.r.lo, .int .i64 x3.r.hi, .string x3.r.num, .bool x3.r.twin, .slice x3.D x3.r.stays.length x3.d, .int .i64 x4.r.id, .slice x4.A x4.r.names.length x4.c, .int .u8 x4.r.suf, .int .i64 x4.r.lo, .int .i64 x4.r.hi, .string x4.r.num, .bool x4.r.twin, .slice x4.D x4.r.stays.length x4.d, .int .i64 x5.r.id, .slice x5.A x5.r.names.length x5.c, .int .u8 x5.r.suf, .int .i64 x5.r.lo, .int .i64 x5.r.hi, .string x5.r.num, .bool x5.r.twin, .slice x5.D x5.r.stays.length x5.d] : Array Value)[i]?)) ((refine SK _ ?_; repeat (first | with_reducible assumption | with_reducible exact Below.refl _ _ | with_reducible refine Below.drew ?_ | with_reducible refine Below.alloc ?_ (by first | omega | (simp; done) | (simp; omega)) _ | with_reducible refine Below.setCell ?_ (by first | omega | (simp; done) | (simp; omega)) _)))
                (first
                  | (go_at_call 9; (with_reducible refine (HR.out _).mono ?_); rintro e w1 ⟨rfl, h1⟩; have d1b := rulesB3 h1 (by with_reducible assumption); have hv1 := d1b.size; have hz1 := h1.size; (try (simp at hz1)); (try (have P1 := ((Blk.new V9 #[.int .u8 0, .int .u8 0, .int .u8 0, .int .u8 0, .int .u8 0] 30).drew).below h1 (by first | omega | (simp; done) | (simp; omega)); have P1c := P1.cell; have P1f := P1.free)); (try (have Q1 := fun hX => ((newAt' V9.drew #[.int .u8 0, .int .u8 0, .int .u8 0, .int .u8 0, .int .u8 0] 30 rfl)).below h1 hX)))
                  | (go_at_call 8; (with_reducible refine (HC.out _ ?_).mono ?_); exact hpV.lateS (by with_reducible assumption); rintro e w2 ⟨rfl, h2⟩; have d2b := rulesB3 h2 (by with_reducible assumption); have hz2 := h2.size; (try (simp at hz2)); have hv2 := d2b.size; (try (have R1 := P1.below h2 (by first | omega | (simp; done) | (simp; omega)); have R1c := R1.cell; have R1f := R1.free)); (try (have R3 := (Blk.new w1 #[.int .u8 0, .int .u8 0, .int .u8 0, .int .u8 0, .int .u8 0] 30).below h2 (by first | omega | (simp; done) | (simp; omega)); have R3c := R3.cell; have R3f := R3.free))))
              all_goals first | (go_step; go_step; go_meet) | (go_step; go_meet) | go_meet
              all_goals exact ⟨rfl, heldB (by with_reducible assumption)⟩
            case rest =>
              obtain ⟨rfl, hbc⟩ := hcut
              have G6' := Lib.hid (G6.out.later hbc)
              clear G6
              have G6 := G6'
              clear G6'
              have G7' := Lib.hid (G7.out.later hbc)
              clear G7
              have G7 := G7'
              clear G7'
              have g6 := G6.out.2
              have g7 := G7.out.2
              have hb9 := hbV.trans (hbc.mono hbV.size)
              clear hpV hbV hbc SK kP dd0 HC
              go_wp2_with fail
              go_ret
              exact ⟨rfl, hb9⟩

end Go.Proofs.YtoinegfcodnjhaaGreatDoor

namespace Go.Proofs.YtoinegfcodnjhaaGreatDoor
open Go.ChangeShapes Go.WideShapes Go.ChangeAt Go.RowKit

theorem exOwn : ownKnob Tryz.prog.godebug = none := by kernel_rfl
set_option maxRecDepth 100000 in
theorem exDoor (os : Os) (args : Array Value) : laidMetH Tryz.prog Rows.matchExamplesRow.laid ((World.doorLaid Tryz.prog 24 os).forCall (fun _ _ => 0) ⟨#[], args, []⟩).memory :=
  laidMetH_of_parts3 (fuel := 8) (laidMet_of_run' 8 (by kernel_rfl) (by kernel_rfl)) (by kernel_rfl) (by kernel_rfl)

set_option maxRecDepth 100000 in
theorem matchExamples_lifted (os : Os) (started : os.Started) (H : Type) (enc : TypeId × Value → H) :
    ReturnsInHanded {} Tryz.checked os 3 .any (fun w args => (Rows.matchExamplesSpec.pre enc Tryz.prog Tryz.f3 [] false w args ∧ laidMetH Tryz.prog Rows.matchExamplesRow.laid w) ∧ sizedMet enc Tryz.prog Tryz.f3 (OpenSpec.ofChange Rows.matchExamplesSpec) false w args)
      (Rows.matchExamplesSpec.post enc Tryz.prog Tryz.f3 false true false false) := by
  refine returnsInHanded_of_change_and (C := Tryz.checked) (X := fun w _ => laidMetH Tryz.prog Rows.matchExamplesRow.laid w) (fun _ _ _ hh h => h.of_heap hh) exOwn started (by kernel_rfl) Tryz.func3
    (ChangeSpec.witness_shaped (enc := enc) (C := Tryz.checked) (os := os) (X := fun w _ => laidMetH Tryz.prog Rows.matchExamplesRow.laid w) false (World.doorLaid Tryz.prog 24 os) #[] 8 rfl (World.shaped_of_RefB (by kernel_rfl) (by kernel_rfl)) (by kernel_rfl) (by kernel_rfl) (by kernel_rfl) (exDoor os _)) ?_
  intro W base args ds gs before hval0 hW _ _ _ _
  have hW' := hW
  obtain ⟨p, q, hA0, hV, rfl, hfz, hnd⟩ := hW
  have hA : DataW.TrodAll enc Tryz.prog W 0 (fun _ => true) true Tryz.f3.params.toList args.toList ds p := hA0
  rw [Tryz.params3] at hA
  obtain ⟨rfl, rfl, rfl⟩ := trodAll_none hA
  obtain ⟨rfl, rfl⟩ := trodVars_none hV
  clear hA0 hval0
  refine (matchExamples_any W).mono fun e W' ⟨he, hb⟩ => ?_
  subst he
  refine ⟨_, rfl, _, _, _, [], [], [], hW', ?_, ?_, rfl, hb.frame _, fun h => by cases h⟩
  · exact trodAll_mk1 (shut_bool Tryz.underlying4 true)
  · exact trodAll_mk0

theorem matchExamples_holds : Rows.MatchExamplesSaid :=
  OpenClaim.holds_of_wide 3 Tryz.f3 rfl rfl rfl rfl rfl rfl rfl ⟨rfl, rfl, rfl, rfl, rfl⟩ rfl rfl rfl rfl rfl (by kernel_rfl) Tryz.func3 (by kernel_rfl)
    (of_decide_eq_true (by kernel_rfl)) (by unfold Func.isWrapper; first | (rw [if_pos (by decide +kernel)]; kernel_rfl) | (rw [if_neg (by decide +kernel)]; exact ⟨rfl, rfl⟩))
    (fun os started H enc _ => matchExamples_lifted os started H enc)

theorem matchExamples_card : Rows.MatchExamplesCardSaid :=
  Claim7.holds_tied_plain_at .later [] [.data, .data, .data] true Rows.matchExamplesCard.stood.harness false
    matchExamples_holds (fun _ h => by cases h) (by kernel_rfl) (fun _ h => by cases h) matchExamples_row_tie rfl ⟨rfl, rfl⟩ (by kernel_rfl) rfl
    (fun f fn hf hfn => by
      obtain rfl : f = 3 := Option.some.inj ((show Tryz.prog.funcNamed Rows.matchExamplesRow.func = some 3 by kernel_rfl).symm.trans hf) |>.symm
      obtain rfl : fn = Tryz.f3 := (Option.some.inj (Tryz.func3.symm.trans hfn)).symm
      exact ⟨by kernel_rfl, fun j t ht => by
        rw [Tryz.params3] at ht
        simp at ht⟩)
    (by kernel_rfl)

#print axioms matchExamples_card
end Go.Proofs.YtoinegfcodnjhaaGreatDoor
