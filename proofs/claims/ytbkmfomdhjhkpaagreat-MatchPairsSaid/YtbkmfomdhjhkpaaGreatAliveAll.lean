/- The chapter's examples that each statement asks for hold. -/
import Derived.Test.YtbkmfomdhjhkpaaGreatRecs
import Derived.Test.YtbkmfomdhjhkpaaGreatSameL
import Derived.Test.YtbkmfomdhjhkpaaGreatChecks
import Derived.Test.YtbkmfomdhjhkpaaGreatEdw

namespace Go.Proofs.YtbkmfomdhjhkpaaGreat
open Go.RowKit

def recCells (x : RD) : List Value := [.int .i64 x.r.id, .slice x.A x.r.names.length x.c, .int .u8 x.r.suf, .int .i64 x.r.lo, .int .i64 x.r.hi, .string x.r.num, .bool x.r.twin, .slice x.D x.r.stays.length x.d]
theorem recCells_get : ∀ (l : List RD) (k : Nat) (h : k < l.length) (i : Nat), i < 8 → (l.flatMap recCells)[k * 8 + i]? = (recCells l[k])[i]?
  | x :: l, 0, _, i, hi => by
    rw [List.flatMap_cons, Nat.zero_mul, Nat.zero_add, List.getElem?_append_left (by simpa [recCells] using hi)]; rfl
  | x :: l, k + 1, h, i, hi => by
    have ih := recCells_get l k (by simpa using h) i hi
    rw [List.flatMap_cons, List.getElem?_append_right (by simp [recCells]; omega), show (k + 1) * 8 + i - (recCells x).length = k * 8 + i by simp [recCells]; omega]
    exact ih

end Go.Proofs.YtbkmfomdhjhkpaaGreat

namespace Go.Proofs.YtbkmfomdhjhkpaaGreat
open Go.RowKit

def rulC : Rul := ⟨2, 1, 30, 10⟩
abbrev wSMITH : ByteArray := { data := #[83, 77, 73, 84, 72] }
abbrev wJOHN : ByteArray := { data := #[74, 79, 72, 78] }
abbrev wPAUL : ByteArray := { data := #[80, 65, 85, 76] }
abbrev wSMYTH : ByteArray := { data := #[83, 77, 89, 84, 72] }
abbrev wJ : ByteArray := { data := #[74] }
def recC1 : Rec := ⟨1, [wSMITH, wJOHN, wPAUL], 0, 5000, 5000, { data := #[49, 50, 51, 52, 53, 54, 55, 56, 57] }, false, [⟨7, 100, 200⟩]⟩
def recC2 : Rec := ⟨2, [wSMYTH, wJOHN], 0, 5000, 5000, { data := #[49, 50, 51, 52, 53, 54, 55, 56, 48] }, false, [⟨7, 150, 300⟩]⟩
def recC3 : Rec := ⟨3, [wSMITH, wJ], 0, 5000, 5000, { data := #[] }, false, [⟨7, 180, 190⟩]⟩
def recC4 : Rec := ⟨4, [wSMITH, wJOHN], 2, 14000, 14100, { data := #[] }, false, [⟨7, 100, 400⟩]⟩
def recC5 : Rec := ⟨5, [wSMITH, wJOHN, wPAUL], 1, 5000, 5000, { data := #[57, 56, 55, 54, 53, 52, 51, 50, 49] }, false, [⟨8, 0, 50⟩]⟩
def peopleC : List Rec := [recC1, recC2, recC3, recC4, recC5]

theorem strs_of {W : World} {g B : Nat} {cs : Array Value} {t : TypeId} {l : List ByteArray} (h : Blk W g cs t) (hg : g < B) (hc : cs.toList = l.map .string) (hs : ∀ x ∈ l, x.size ≤ maxLen) : Strs W B (some ⟨g, 0, none⟩) l := fun k hk =>
  ⟨g, 0, rfl, hg, by rw [Nat.zero_add, h.cell, ← Array.getElem?_toList, hc]; simp [hk], hs _ (List.getElem_mem hk)⟩
theorem stays_of {W : World} {g B : Nat} {p f t : Int} {ty : TypeId} (h : Blk W g #[.int .i64 p, .int .i64 f, .int .i64 t] ty) (hg : g < B) : Stays W B (some ⟨g, 0, none⟩) [⟨p, f, t⟩] := fun k hk => by
  obtain rfl : k = 0 := by simp at hk; exact hk
  exact ⟨g, 0, rfl, hg, h.cell 0, h.cell 1, h.cell 2⟩
theorem recs_of {W : World} {g B : Nat} {cs : Array Value} {t : TypeId} {l : List RD} (h : Blk W g cs t) (hg : g < B) (hc : cs.toList = l.flatMap recCells) (hr : ∀ x ∈ l, RecAt W B x.A x.D x.r ∧ x.r.names.length ≤ x.c) : Recs W B (some ⟨g, 0, none⟩) l := fun k hk =>
  ⟨g, 0, rfl, hg, fun i hi => by
    rw [Nat.zero_add, h.cell, ← Array.getElem?_toList, hc, recCells_get l k hk i hi, ← Array.getElem?_toList]; rfl, hr _ (List.getElem_mem hk)⟩
theorem newAt (w : World) (cs : Array Value) (t : TypeId) {g : Nat} (hg : g = w.heap.size) : Blk (w.alloc (.cells cs t)) g cs t := hg ▸ Blk.new w cs t
theorem step2 {V V' F : World} {o1 o2 : Obj} (k : Below ((V.alloc o1).alloc o2).heap.size ((V.alloc o1).alloc o2) V') (f : Below V'.heap.size V' F) : Below ((V.alloc o1).alloc o2).heap.size ((V.alloc o1).alloc o2) F := k.trans (f.mono k.size)
theorem step1 {V V' F : World} {o1 o2 : Obj} (_ : Below ((V.alloc o1).alloc o2).heap.size ((V.alloc o1).alloc o2) V') (f : Below ((V.alloc o1).alloc o2).heap.size ((V.alloc o1).alloc o2) F) : Below V.heap.size V F :=
  (((Below.refl _ _).alloc (Nat.le_refl _) _).alloc (by simp) _).trans (f.mono (by simp; omega))

set_option maxHeartbeats 400000 in
theorem lawRules_any (w : World) : Calls Tryz.prog 46 #[] w fun e w' => e = .returned (.agg #[.int .i64 2, .int .i64 1, .int .i64 30, .int .i64 10]) ∧ Below w.heap.size w w' := by
  go_enter Tryz.func46, Tryz.ntmps46
  go_wp2_with fail
  have k := (Blk.new w #[.int .i64 2, .int .i64 1, .int .i64 30, .int .i64 10] 23).cell
  have hb : Below w.heap.size w (w.alloc (.cells #[.int .i64 2, .int .i64 1, .int .i64 30, .int .i64 10] 23)) := (Below.refl _ _).alloc (Nat.le_refl _) _
  generalize w.alloc (.cells #[.int .i64 2, .int .i64 1, .int .i64 30, .int .i64 10] 23) = W at *
  have k0 := k 0
  have k1 := k 1
  have k2 := k 2
  have k3 := k 3
  refine bodyPost_ret (v := .agg #[.int .i64 2, .int .i64 1, .int .i64 30, .int .i64 10]) ?hres rfl ?hpost
  case hres => simp [results, Tryz.results46, go_sem, k0, k1, k2, k3]
  case hpost => exact ⟨rfl, hb⟩

set_option maxHeartbeats 400000 in
theorem lawSpan_any (lo hi : Int) (w : World) : Calls Tryz.prog 50 #[.int .i64 lo, .int .i64 hi] w fun e w' => e = .returned (.agg #[.int .i64 lo, .int .i64 hi]) ∧ Below w.heap.size w w' := by
  go_enter Tryz.func50, Tryz.ntmps50
  go_wp2_with fail
  have k := (Blk.new w #[.int .i64 lo, .int .i64 hi] 44).cell
  have hb : Below w.heap.size w (w.alloc (.cells #[.int .i64 lo, .int .i64 hi] 44)) := (Below.refl _ _).alloc (Nat.le_refl _) _
  generalize w.alloc (.cells #[.int .i64 lo, .int .i64 hi] 44) = W at *
  have k0 := k 0
  have k1 := k 1
  refine bodyPost_ret (v := .agg #[.int .i64 lo, .int .i64 hi]) ?hres rfl ?hpost
  case hres => simp [results, Tryz.results50, go_sem, k0, k1]
  case hpost => exact ⟨rfl, hb⟩

theorem szC1 : (∀ x ∈ recC1.names, x.size ≤ maxLen) ∧ recC1.names.length ≤ maxLen ∧ recC1.stays.length ≤ maxLen ∧ recC1.num.size ≤ maxLen := by decide +kernel
theorem szC2 : (∀ x ∈ recC2.names, x.size ≤ maxLen) ∧ recC2.names.length ≤ maxLen ∧ recC2.stays.length ≤ maxLen ∧ recC2.num.size ≤ maxLen := by decide +kernel
theorem szC3 : (∀ x ∈ recC3.names, x.size ≤ maxLen) ∧ recC3.names.length ≤ maxLen ∧ recC3.stays.length ≤ maxLen ∧ recC3.num.size ≤ maxLen := by decide +kernel
theorem szC4 : (∀ x ∈ recC4.names, x.size ≤ maxLen) ∧ recC4.names.length ≤ maxLen ∧ recC4.stays.length ≤ maxLen ∧ recC4.num.size ≤ maxLen := by decide +kernel
theorem szC5 : (∀ x ∈ recC5.names, x.size ≤ maxLen) ∧ recC5.names.length ≤ maxLen ∧ recC5.stays.length ≤ maxLen ∧ recC5.num.size ≤ maxLen := by decide +kernel
structure PeopleAt (W : World) (g : Nat) (x1 x2 x3 x4 x5 : RD) : Prop where
  blk : Blk W g #[.int .i64 x1.r.id, .slice x1.A x1.r.names.length x1.c, .int .u8 x1.r.suf, .int .i64 x1.r.lo, .int .i64 x1.r.hi, .string x1.r.num, .bool x1.r.twin, .slice x1.D x1.r.stays.length x1.d, .int .i64 x2.r.id, .slice x2.A x2.r.names.length x2.c, .int .u8 x2.r.suf, .int .i64 x2.r.lo, .int .i64 x2.r.hi, .string x2.r.num, .bool x2.r.twin, .slice x2.D x2.r.stays.length x2.d, .int .i64 x3.r.id, .slice x3.A x3.r.names.length x3.c, .int .u8 x3.r.suf, .int .i64 x3.r.lo, .int .i64 x3.r.hi, .string x3.r.num, .bool x3.r.twin, .slice x3.D x3.r.stays.length x3.d, .int .i64 x4.r.id, .slice x4.A x4.r.names.length x4.c, .int .u8 x4.r.suf, .int .i64 x4.r.lo, .int .i64 x4.r.hi, .string x4.r.num, .bool x4.r.twin, .slice x4.D x4.r.stays.length x4.d, .int .i64 x5.r.id, .slice x5.A x5.r.names.length x5.c, .int .u8 x5.r.suf, .int .i64 x5.r.lo, .int .i64 x5.r.hi, .string x5.r.num, .bool x5.r.twin, .slice x5.D x5.r.stays.length x5.d] 47
  recs : ∀ x ∈ [x1, x2, x3, x4, x5], RecAt W W.heap.size x.A x.D x.r ∧ x.r.names.length ≤ x.c
theorem PeopleAt.later {V W : World} {g : Nat} {x1 x2 x3 x4 x5 : RD} (h : PeopleAt V g x1 x2 x3 x4 x5) (hb : Below V.heap.size V W) : PeopleAt W g x1 x2 x3 x4 x5 :=
  ⟨h.blk.below hb h.blk.lt, fun x hx => ⟨(h.recs x hx).1.later hb, (h.recs x hx).2⟩⟩
theorem PeopleAt.list {W : World} {g : Nat} {x1 x2 x3 x4 x5 : RD} (h : PeopleAt W g x1 x2 x3 x4 x5) : Recs W W.heap.size (some ⟨g, 0, none⟩) [x1, x2, x3, x4, x5] :=
  recs_of h.blk h.blk.lt rfl h.recs
theorem PeopleAt.three {W : World} {g : Nat} {x1 x2 x3 x4 x5 : RD} (h : PeopleAt W g x1 x2 x3 x4 x5) : Recs W W.heap.size (some ⟨g, 0, none⟩) [x1, x2, x3] := fun k hk => by
  match k, hk with
  | 0, _ => exact h.list 0 (by simp)
  | 1, _ => exact h.list 1 (by simp)
  | 2, _ => exact h.list 2 (by simp)

structure WhoC (x1 x2 x3 x4 x5 : RD) : Prop where
  e1 : x1.r = recC1
  e2 : x2.r = recC2
  e3 : x3.r = recC3
  e4 : x4.r = recC4
  e5 : x5.r = recC5

abbrev st3 (p f t : Int) : Obj := .cells #[.int .i64 p, .int .i64 f, .int .i64 t] 75
abbrev nm3 (x y z : ByteArray) : Obj := .cells #[.string x, .string y, .string z] 9
abbrev nm2 (x y : ByteArray) : Obj := .cells #[.string x, .string y] 9
theorem people_end {w a1 a2 a3 a4 w1 F : World} {cs : Array Value}
    (k1 : Below (w.alloc (nm3 wSMITH wJOHN wPAUL)).heap.size (w.alloc (nm3 wSMITH wJOHN wPAUL)) a1)
    (k2 : Below ((a1.alloc (st3 7 100 200)).alloc (nm2 wSMYTH wJOHN)).heap.size ((a1.alloc (st3 7 100 200)).alloc (nm2 wSMYTH wJOHN)) a2)
    (k3 : Below ((a2.alloc (st3 7 150 300)).alloc (nm2 wSMITH wJ)).heap.size ((a2.alloc (st3 7 150 300)).alloc (nm2 wSMITH wJ)) a3)
    (k4 : Below ((a3.alloc (st3 7 180 190)).alloc (nm2 wSMITH wJOHN)).heap.size ((a3.alloc (st3 7 180 190)).alloc (nm2 wSMITH wJOHN)) a4)
    (h1 : Below ((a4.alloc (st3 7 100 400)).alloc (nm3 wSMITH wJOHN wPAUL)).heap.size ((a4.alloc (st3 7 100 400)).alloc (nm3 wSMITH wJOHN wPAUL)) w1)
    (hF : F = (w1.alloc (st3 8 0 50)).alloc (.cells cs 47))
    (hcs : cs = ([(⟨recC1, some ⟨w.heap.size, 0, none⟩, 3, some ⟨a1.heap.size, 0, none⟩, 1⟩ : RD), ⟨recC2, some ⟨a1.heap.size + 1, 0, none⟩, 2, some ⟨a2.heap.size, 0, none⟩, 1⟩, ⟨recC3, some ⟨a2.heap.size + 1, 0, none⟩, 2, some ⟨a3.heap.size, 0, none⟩, 1⟩, ⟨recC4, some ⟨a3.heap.size + 1, 0, none⟩, 2, some ⟨a4.heap.size, 0, none⟩, 1⟩, ⟨recC5, some ⟨a4.heap.size + 1, 0, none⟩, 3, some ⟨w1.heap.size, 0, none⟩, 1⟩].flatMap recCells).toArray) :
    PeopleAt F (w1.heap.size + 1) ⟨recC1, some ⟨w.heap.size, 0, none⟩, 3, some ⟨a1.heap.size, 0, none⟩, 1⟩ ⟨recC2, some ⟨a1.heap.size + 1, 0, none⟩, 2, some ⟨a2.heap.size, 0, none⟩, 1⟩ ⟨recC3, some ⟨a2.heap.size + 1, 0, none⟩, 2, some ⟨a3.heap.size, 0, none⟩, 1⟩ ⟨recC4, some ⟨a3.heap.size + 1, 0, none⟩, 2, some ⟨a4.heap.size, 0, none⟩, 1⟩ ⟨recC5, some ⟨a4.heap.size + 1, 0, none⟩, 3, some ⟨w1.heap.size, 0, none⟩, 1⟩ ∧ Below w.heap.size w F := by
  have F5 := ((Below.refl w1.heap.size w1).alloc (Nat.le_refl _) (st3 8 0 50)).alloc (by simp) (.cells cs 47)
  have S5 := (Blk.new w1 #[.int .i64 8, .int .i64 0, .int .i64 50] 75).alloc (.cells cs 47)
  have R := newAt (w1.alloc (st3 8 0 50)) cs 47 (World.size_alloc _ _).symm
  rw [← hF] at F5 S5 R
  clear hF
  have Y4 := step2 h1 F5
  have F4' := step1 h1 Y4
  have Y3 := step2 k4 F4'
  have F3' := step1 k4 Y3
  have Y2 := step2 k3 F3'
  have F2' := step1 k3 Y2
  have Y1 := step2 k2 F2'
  have F1' := step1 k2 Y1
  have Y0 := k1.trans (F1'.mono k1.size)
  have N1 := (Blk.new w #[.string wSMITH, .string wJOHN, .string wPAUL] 9).below Y0 (by simp)
  have S1 := ((Blk.new a1 #[.int .i64 7, .int .i64 100, .int .i64 200] 75).alloc (nm2 wSMYTH wJOHN)).below Y1 (by simp; omega)
  have N2 := (newAt (a1.alloc (st3 7 100 200)) #[.string wSMYTH, .string wJOHN] 9 (World.size_alloc _ _).symm).below Y1 (by simp)
  have S2 := ((Blk.new a2 #[.int .i64 7, .int .i64 150, .int .i64 300] 75).alloc (nm2 wSMITH wJ)).below Y2 (by simp; omega)
  have N3 := (newAt (a2.alloc (st3 7 150 300)) #[.string wSMITH, .string wJ] 9 (World.size_alloc _ _).symm).below Y2 (by simp)
  have S3 := ((Blk.new a3 #[.int .i64 7, .int .i64 180, .int .i64 190] 75).alloc (nm2 wSMITH wJOHN)).below Y3 (by simp; omega)
  have N4 := (newAt (a3.alloc (st3 7 180 190)) #[.string wSMITH, .string wJOHN] 9 (World.size_alloc _ _).symm).below Y3 (by simp)
  have S4 := ((Blk.new a4 #[.int .i64 7, .int .i64 100, .int .i64 400] 75).alloc (nm3 wSMITH wJOHN wPAUL)).below Y4 (by simp; omega)
  have N5 := (newAt (a4.alloc (st3 7 100 400)) #[.string wSMITH, .string wJOHN, .string wPAUL] 9 (World.size_alloc _ _).symm).below Y4 (by simp)
  have hb : Below w.heap.size w F := ((Below.refl _ _).alloc (Nat.le_refl _) _).trans (Y0.mono (by simp))
  clear k1 k2 k3 k4 h1 F5 F4' F3' F2' F1' Y0 Y1 Y2 Y3 Y4
  rw [hcs] at R
  refine ⟨⟨R, ?_⟩, hb⟩
  intro x hx
  simp only [List.mem_cons, List.not_mem_nil, or_false] at hx
  rcases hx with rfl | rfl | rfl | rfl | rfl
  · exact ⟨⟨strs_of N1 N1.lt rfl szC1.1, stays_of S1 S1.lt, szC1.2.1, szC1.2.2.1, szC1.2.2.2⟩, Nat.le_refl _⟩
  · exact ⟨⟨strs_of N2 N2.lt rfl szC2.1, stays_of S2 S2.lt, szC2.2.1, szC2.2.2.1, szC2.2.2.2⟩, Nat.le_refl _⟩
  · exact ⟨⟨strs_of N3 N3.lt rfl szC3.1, stays_of S3 S3.lt, szC3.2.1, szC3.2.2.1, szC3.2.2.2⟩, Nat.le_refl _⟩
  · exact ⟨⟨strs_of N4 N4.lt rfl szC4.1, stays_of S4 S4.lt, szC4.2.1, szC4.2.2.1, szC4.2.2.2⟩, Nat.le_refl _⟩
  · exact ⟨⟨strs_of N5 N5.lt rfl szC5.1, stays_of S5 S5.lt, szC5.2.1, szC5.2.2.1, szC5.2.2.2⟩, Nat.le_refl _⟩

set_option maxRecDepth 100000 in
set_option maxHeartbeats 1000000 in
theorem lawPeople_any (w : World) : Calls Tryz.prog 45 #[] w fun e w' => ∃ g x1 x2 x3 x4 x5, e = .returned (.slice (some ⟨g, 0, none⟩) 5 5) ∧ WhoC x1 x2 x3 x4 x5 ∧ PeopleAt w' g x1 x2 x3 x4 x5 ∧ Below w.heap.size w w' := by
  go_enter Tryz.func45, Tryz.ntmps45
  go_wp2_with (first
    | (go_at_call 50; with_reducible refine (lawSpan_any _ _ _).mono ?_; rintro e w1 ⟨rfl, h1⟩))
  rename_i a1 k1 a2 k2 a3 k3 a4 k4
  go_ret
  exact ⟨_, _, _, _, _, _, rfl, ⟨rfl, rfl, rfl, rfl, rfl⟩, people_end k1 k2 k3 k4 h1 rfl rfl⟩

end Go.Proofs.YtbkmfomdhjhkpaaGreat

namespace Go.Proofs.YtbkmfomdhjhkpaaGreat
open Go.RowKit

/-- The distance, by a bound on the steps. -/
def DF (a b : List UInt8) : Nat → Nat → Nat → Nat
  | 0, _, _ => 0
  | _ + 1, 0, j => j
  | _ + 1, i + 1, 0 => i + 1
  | n + 1, i + 1, j + 1 => min (DF a b n i j + sub a b i j) (min (DF a b n i (j + 1) + 1) (DF a b n (i + 1) j + 1))
theorem DF_eq (a b : List UInt8) : ∀ n i j, i + j < n → DF a b n i j = D a b i j
  | 0, _, _, h => by omega
  | n + 1, 0, j, _ => (D_zero a b j).symm
  | n + 1, i + 1, 0, _ => (D_left a b (i + 1)).symm
  | n + 1, i + 1, j + 1, h => by
    rw [D_succ, ← DF_eq a b n i j (by omega), ← DF_eq a b n i (j + 1) (by omega), ← DF_eq a b n (i + 1) j (by omega)]
    rfl
theorem levF (a b : List UInt8) : lev a b = DF a b (a.length + b.length + 1) a.length b.length := (DF_eq a b _ _ _ (by omega)).symm
theorem levC1 : lev wSMYTH.data.toList wSMITH.data.toList = 1 := by rw [levF]; decide +kernel
theorem levC2 : lev wSMITH.data.toList [83, 77, 89, 84, 72, 69] = 2 := by rw [levF]; decide +kernel
theorem edC : edN wSMITH { data := #[83, 77, 89, 84, 72, 69] } = 2 ∧ edE wSMITH { data := #[83, 77, 89, 84, 72, 69] } = 0 := by
  refine ⟨?_, by decide +kernel⟩
  rw [edN, if_pos (by decide +kernel)]
  show ((lev wSMITH.data.toList [83, 77, 89, 84, 72, 69] : Nat) : Int) = 2
  rw [levC2]; rfl
theorem namesC2 : namesS 2 recC1.names recC2.names = 2 := by
  rw [namesS, if_pos (by decide +kernel), namesF_B _ _ _ (by decide +kernel) (by decide +kernel)]
  show namesV wSMYTH wSMITH _ _ (lev wSMYTH.data.toList wSMITH.data.toList) 2 = 2
  rw [levC1]; decide +kernel
theorem namesC23 : namesS 2 recC2.names recC3.names = 2 := by
  rw [namesS, if_neg (by decide +kernel), namesF_B _ _ _ (by decide +kernel) (by decide +kernel)]
  show namesV wSMYTH wSMITH _ _ (lev wSMYTH.data.toList wSMITH.data.toList) 2 = 2
  rw [levC1]; decide +kernel
theorem matC2 : matF rulC recC1 recC2 = ⟨2, 2, 3, 3, 1⟩ := by
  unfold matF
  rw [show rulC.l = 2 from rfl, namesC2]; decide +kernel
theorem matC23 : matF rulC recC2 recC3 = ⟨2, 1, 3, 3, 1⟩ := by
  unfold matF
  rw [show rulC.l = 2 from rfl, namesC23]; decide +kernel
theorem cmpC2 : cmpM rulC recC1 recC2 = ⟨2, 2, 3, 3, 1⟩ ∧ cmpE rulC recC1 recC2 = 0 := by
  have h : cmpE rulC recC1 recC2 = 0 := by decide +kernel
  exact ⟨(cmpM_good h).trans matC2, h⟩
theorem cmpC3 : cmpM rulC recC1 recC3 = ⟨3, 1, 3, 3, 2⟩ ∧ cmpE rulC recC1 recC3 = 0 := by decide +kernel
theorem matC3 : matF rulC recC1 recC3 = ⟨3, 1, 3, 3, 2⟩ := by decide +kernel
theorem cmpC4 : cmpM rulC recC1 recC4 = ⟨3, 1, 0, 3, 0⟩ ∧ cmpE rulC recC1 recC4 = 0 := by decide +kernel
theorem sortC {l : List Rec} (hs : l.Pairwise fun x y => x.id ≤ y.id) (hn : (l.map Rec.id).Nodup) : sortR l = l := (sorted_eq (List.Perm.refl l) hs hn).symm
theorem pairC : pairsE rulC [recC1, recC2, recC3] = 0 ∧ pairsV rulC 2 [recC1, recC2, recC3] = [(1, 3)] ∧ pairsV rulC 1 [recC1, recC2, recC3] = [(1, 2), (2, 3)] := by
  have hE : pairsE rulC [recC1, recC2, recC3] = 0 := by decide +kernel
  have hS : sortR [recC1, recC2, recC3] = [recC1, recC2, recC3] := sortC (by decide +kernel) (by decide +kernel)
  have i1 : recC1.id = 1 := rfl
  have i2 : recC2.id = 2 := rfl
  have i3 : recC3.id = 3 := rfl
  refine ⟨hE, ?_, ?_⟩
  · rw [pairsV, if_pos hE, hS]
    simp [pairTo, pairRow, List.range_succ, matC2, matC3, matC23, i1, i2, i3, List.filter_cons]
  · rw [pairsV, if_pos hE, hS]
    simp [pairTo, pairRow, List.range_succ, matC2, matC3, matC23, i1, i2, i3, List.filter_cons]
theorem homeC : homesE 185 peopleC = 0 ∧ homesV 185 peopleC = [[1, 2, 3, 4]] := by
  have hE : homesE 185 peopleC = 0 := by decide +kernel
  have hS : sortR peopleC = peopleC := sortC (by decide +kernel) (by decide +kernel)
  refine ⟨hE, ?_⟩
  rw [homesV, if_pos hE, hS]
  have hP : placesL 185 peopleC = [7] := by
    rw [← placesL_eq (ks := [7]) (day := 185) (l := peopleC) (by decide) (fun p => ?_)]
    · simp
    · by_cases hp : p = 7
      · subst hp; decide +kernel
      · by_cases hp8 : p = 8
        · subst hp8; decide +kernel
        · have e : idsAt 185 p peopleC = [] := by
            simp [idsAt, peopleC, recC1, recC2, recC3, recC4, recC5, atB, ofP, Ne.symm hp, Ne.symm hp8]
          rw [e]; simp [hp]
  rw [homesL, hP]; decide +kernel

end Go.Proofs.YtbkmfomdhjhkpaaGreat

namespace Go.Proofs.YtbkmfomdhjhkpaaGreat
open Go.RowKit

theorem compC {x1 x2 : RD} {M : Mat} (W : World) (hM : cmpM rulC x1.r x2.r = M ∧ cmpE rulC x1.r x2.r = 0) (s1 : 0 ≤ x1.r.suf) (s2 : 0 ≤ x2.r.suf) (h1 : RecAt W W.heap.size x1.A x1.D x1.r) (h2 : RecAt W W.heap.size x2.A x2.D x2.r) (n1 : x1.r.names.length ≤ x1.c) (n2 : x2.r.names.length ≤ x2.c) :
    Calls Tryz.prog 23 #[.agg #[.int .i64 2, .int .i64 1, .int .i64 30, .int .i64 10], .agg #[.int .i64 x1.r.id, .slice x1.A x1.r.names.length x1.c, .int .u8 x1.r.suf, .int .i64 x1.r.lo, .int .i64 x1.r.hi, .string x1.r.num, .bool x1.r.twin, .slice x1.D x1.r.stays.length x1.d], .agg #[.int .i64 x2.r.id, .slice x2.A x2.r.names.length x2.c, .int .u8 x2.r.suf, .int .i64 x2.r.lo, .int .i64 x2.r.hi, .string x2.r.num, .bool x2.r.twin, .slice x2.D x2.r.stays.length x2.d]] W fun e w' => e = .returned (.tuple #[.agg #[.int .u8 M.names, .int .u8 M.num, .int .u8 M.born, .int .u8 M.place, .int .u8 M.one], .int .i64 0]) ∧ Below W.heap.size W w' := by
  have h := compare_any rulC x1.r x2.r x1.A x2.A x1.D x2.D x1.c x2.c x1.d x2.d W s1 s2 h1 h2 n1 n2
  rw [hM.1, hM.2] at h
  exact h
theorem pairsC {x1 x2 x3 : RD} (W : World) (g : Nat) (h : Recs W W.heap.size (some ⟨g, 0, none⟩) [x1, x2, x3]) (e1 : x1.r = recC1) (e2 : x2.r = recC2) (e3 : x3.r = recC3) :
    Calls Tryz.prog 12 #[.agg #[.int .i64 2, .int .i64 1, .int .i64 30, .int .i64 10], .slice (some ⟨g, 0, none⟩) 3 5] W fun e w' => ∃ A4 c4 A5 c5, e = .returned (.tuple #[.slice A4 1 c4, .slice A5 2 c5, .int .i64 0]) ∧ Hid (Prs w' w'.heap.size A4 [(1, 3)] ∧ Prs w' w'.heap.size A5 [(1, 2), (2, 3)]) ∧ Below W.heap.size W w' := by
  have hl : [x1, x2, x3].map RD.r = [recC1, recC2, recC3] := by simp [e1, e2, e3]
  have hp := pairs_any rulC [x1, x2, x3] (some ⟨g, 0, none⟩) 5 W h (by simp [maxLen]) (by rw [hl]; decide +kernel)
  rw [hl, pairC.1, pairC.2.1, pairC.2.2] at hp
  refine hp.mono ?_
  rintro e w' ⟨v4, v5, rfl, o4, o5, hb⟩
  obtain ⟨A4, c4, rfl⟩ := own_slice o4
  obtain ⟨A5, c5, rfl⟩ := own_slice o5
  exact ⟨A4, c4, A5, c5, rfl, Lib.hid ⟨Prs.of_own o4, Prs.of_own o5⟩, hb⟩
theorem homesC {x1 x2 x3 x4 x5 : RD} (W : World) (g : Nat) (h : Recs W W.heap.size (some ⟨g, 0, none⟩) [x1, x2, x3, x4, x5]) (hw : WhoC x1 x2 x3 x4 x5) :
    Calls Tryz.prog 14 #[.slice (some ⟨g, 0, none⟩) 5 5, .int .i64 185] W fun e w' => ∃ A c, e = .returned (.tuple #[.slice A 1 c, .int .i64 0]) ∧ Hid (Lists w' w'.heap.size A [[1, 2, 3, 4]]) ∧ Below W.heap.size W w' := by
  have hl : [x1, x2, x3, x4, x5].map RD.r = peopleC := by simp [hw.e1, hw.e2, hw.e3, hw.e4, hw.e5, peopleC]
  have hp := homes_any 185 [x1, x2, x3, x4, x5] (some ⟨g, 0, none⟩) 5 W h (by simp [maxLen])
  rw [hl, homeC.1, homeC.2] at hp
  refine hp.mono ?_
  rintro e w' ⟨A, c, rfl, hL, hb⟩
  exact ⟨A, c, rfl, Lib.hid hL, hb⟩
theorem editsC (W : World) : Calls Tryz.prog 25 #[.string { data := #[83, 77, 73, 84, 72] }, .string { data := #[83, 77, 89, 84, 72, 69] }] W fun e w' => e = .returned (.tuple #[.int .i64 2, .int .i64 0]) ∧ Below W.heap.size W w' := by
  have h := edits2_any wSMITH { data := #[83, 77, 89, 84, 72, 69] } W
  rw [edC.1, edC.2] at h
  exact h
theorem sameC1 {V : World} {A : Option Addr} (c : Nat) (h : Prs V V.heap.size A [(1, 3)]) (W : World) (hb : Below V.heap.size V W) :
    Calls Tryz.prog 16 #[.slice A 1 c, .slice (some ⟨W.heap.size, 0, none⟩) 1 1] (W.alloc (.cells #[.int .i64 1, .int .i64 3] 71)) fun e w' => e = .returned (.bool true) ∧ Below W.heap.size W w' := by
  have b0 := (Below.refl W.heap.size W).alloc (Nat.le_refl _) (.cells #[.int .i64 1, .int .i64 3] 71)
  have kn := Blk.new W #[.int .i64 1, .int .i64 3] 71
  have hn : Prs (W.alloc (.cells #[.int .i64 1, .int .i64 3] 71)) (W.alloc (.cells #[.int .i64 1, .int .i64 3] 71)).heap.size (some ⟨W.heap.size, 0, none⟩) [(1, 3)] := fun k hk => by
    match k, hk with
    | 0, _ => exact ⟨_, _, rfl, kn.lt, kn.cell 0, kn.cell 1⟩
  exact (samePairs_any [(1, 3)] A _ c 1 _ ((h.later hb).later b0) hn (by decide)).mono fun e w' ⟨h1, h2⟩ => ⟨h1, b0.trans (h2.mono b0.size)⟩
theorem sameC2 {V : World} {A : Option Addr} (c : Nat) (h : Prs V V.heap.size A [(1, 2), (2, 3)]) (W : World) (hb : Below V.heap.size V W) :
    Calls Tryz.prog 16 #[.slice A 2 c, .slice (some ⟨W.heap.size, 0, none⟩) 2 2] (W.alloc (.cells #[.int .i64 1, .int .i64 2, .int .i64 2, .int .i64 3] 71)) fun e w' => e = .returned (.bool true) ∧ Below W.heap.size W w' := by
  have b0 := (Below.refl W.heap.size W).alloc (Nat.le_refl _) (.cells #[.int .i64 1, .int .i64 2, .int .i64 2, .int .i64 3] 71)
  have kn := Blk.new W #[.int .i64 1, .int .i64 2, .int .i64 2, .int .i64 3] 71
  have hn : Prs (W.alloc (.cells #[.int .i64 1, .int .i64 2, .int .i64 2, .int .i64 3] 71)) (W.alloc (.cells #[.int .i64 1, .int .i64 2, .int .i64 2, .int .i64 3] 71)).heap.size (some ⟨W.heap.size, 0, none⟩) [(1, 2), (2, 3)] := fun k hk => by
    match k, hk with
    | 0, _ => exact ⟨_, _, rfl, kn.lt, kn.cell 0, kn.cell 1⟩
    | 1, _ => exact ⟨_, _, rfl, kn.lt, kn.cell 2, kn.cell 3⟩
  exact (samePairs_any [(1, 2), (2, 3)] A _ c 2 _ ((h.later hb).later b0) hn (by decide)).mono fun e w' ⟨h1, h2⟩ => ⟨h1, b0.trans (h2.mono b0.size)⟩
theorem sameC3 {V : World} {A : Option Addr} (c : Nat) (h : Lists V V.heap.size A [[1, 2, 3, 4]]) (W : World) (hb : Below V.heap.size V W) :
    Calls Tryz.prog 17 #[.slice A 1 c, .slice (some ⟨W.heap.size + 1, 0, none⟩) 1 1] ((W.alloc (.cells #[.int .i64 1, .int .i64 2, .int .i64 3, .int .i64 4] 3)).alloc (.cells #[.slice (some ⟨W.heap.size, 0, none⟩) 4 4] 77)) fun e w' => e = .returned (.bool true) ∧ Below W.heap.size W w' := by
  have b0 := ((Below.refl W.heap.size W).alloc (Nat.le_refl _) (.cells #[.int .i64 1, .int .i64 2, .int .i64 3, .int .i64 4] 3)).alloc (by simp) (.cells #[.slice (some ⟨W.heap.size, 0, none⟩) 4 4] 77)
  have k1 := (Blk.new W #[.int .i64 1, .int .i64 2, .int .i64 3, .int .i64 4] 3).alloc (.cells #[.slice (some ⟨W.heap.size, 0, none⟩) 4 4] 77)
  have k2 := newAt (W.alloc (.cells #[.int .i64 1, .int .i64 2, .int .i64 3, .int .i64 4] 3)) #[.slice (some ⟨W.heap.size, 0, none⟩) 4 4] 77 (World.size_alloc _ _).symm
  generalize (W.alloc (.cells #[.int .i64 1, .int .i64 2, .int .i64 3, .int .i64 4] 3)).alloc (.cells #[.slice (some ⟨W.heap.size, 0, none⟩) 4 4] 77) = X at *
  have hi : Ints X X.heap.size (some ⟨W.heap.size, 0, none⟩) [1, 2, 3, 4] := fun k hk => by
    match k, hk with
    | 0, _ => exact ⟨_, _, rfl, k1.lt, k1.cell 0⟩
    | 1, _ => exact ⟨_, _, rfl, k1.lt, k1.cell 1⟩
    | 2, _ => exact ⟨_, _, rfl, k1.lt, k1.cell 2⟩
    | 3, _ => exact ⟨_, _, rfl, k1.lt, k1.cell 3⟩
  have hn : Lists X X.heap.size (some ⟨W.heap.size + 1, 0, none⟩) [[1, 2, 3, 4]] := fun k hk => by
    match k, hk with
    | 0, _ => exact ⟨_, _, rfl, k2.lt, _, 4, k2.cell 0, hi⟩
  exact (sameLists_any [[1, 2, 3, 4]] A _ c 1 X ((h.later hb).later b0) hn (by decide) (by decide)).mono fun e w' ⟨h1, h2⟩ => ⟨h1, b0.trans (h2.mono b0.size)⟩

end Go.Proofs.YtbkmfomdhjhkpaaGreat

namespace Go.Proofs.YtbkmfomdhjhkpaaGreat
open Go.RowKit

def MatAt (V : World) (cs : Array Value) (s5 s6 : Value) (W : World) : Prop := ∃ b, s5 = .pointer (some ⟨b, 0, none⟩) ∧ s6 = .int .i64 0 ∧ b < W.heap.size ∧ (∀ i, i < 5 → W.cell? ⟨b, i, none⟩ = cs[i]?) ∧ Below V.heap.size V W
theorem Blk.row5 {w : World} {g : Nat} {cs : Array Value} {t : TypeId} (h : Blk w g cs t) (hc : cs.size = 5) (v0 v1 v2 v3 v4 : Value) : Blk (((((w.setCell ⟨g, 0, none⟩ v0).setCell ⟨g, 1, none⟩ v1).setCell ⟨g, 2, none⟩ v2).setCell ⟨g, 3, none⟩ v3).setCell ⟨g, 4, none⟩ v4) g #[v0, v1, v2, v3, v4] t := by
  have hh := ((((h.set 0 v0).set 1 v1).set 2 v2).set 3 v3).set 4 v4
  have e : ((((((cs.setIfInBounds 0 v0).setIfInBounds 1 v1).setIfInBounds 2 v2).setIfInBounds 3 v3).setIfInBounds 4 v4) : Array Value) = #[v0, v1, v2, v3, v4] := by
    rcases cs with ⟨l⟩
    rcases l with _ | ⟨a0, _ | ⟨a1, _ | ⟨a2, _ | ⟨a3, _ | ⟨a4, _ | ⟨a5, l⟩⟩⟩⟩⟩⟩ <;> first | (simp at hc; done) | (simp at hc; omega) | simp
  rw [e] at hh
  exact hh
theorem Blk.row5Z {w : World} {g : Nat} {t : TypeId} (h : Blk w g #[.int .u8 0, .int .u8 0, .int .u8 0, .int .u8 0, .int .u8 0] t) (v0 v1 v2 v3 v4 : Value) : Blk (((((w.setCell ⟨g, 0, none⟩ v0).setCell ⟨g, 1, none⟩ v1).setCell ⟨g, 2, none⟩ v2).setCell ⟨g, 3, none⟩ v3).setCell ⟨g, 4, none⟩ v4) g #[v0, v1, v2, v3, v4] t := h.row5 rfl v0 v1 v2 v3 v4
theorem newAt' (w : World) (cs : Array Value) (t : TypeId) {g : Nat} (hg : g = w.heap.size) : Blk (w.alloc (.cells cs t)) g cs t := hg ▸ Blk.new w cs t
theorem rulesB2 {V X W : World} (h : Below X.heap.size X W) (hX : Below V.heap.size V X) : Below V.heap.size V W := hX.trans (h.mono hX.size)
theorem rulesB3 {V X W : World} {Q : Prop} (h : Below X.heap.size X W) (hX : Below V.heap.size V X ∧ Q) : Below V.heap.size V W := hX.1.trans (h.mono hX.1.size)
theorem PeopleAt.lateS {V W : World} {g : Nat} {x1 x2 x3 x4 x5 : RD} {Q : Prop} (h : PeopleAt V g x1 x2 x3 x4 x5) (hS : Below V.heap.size V W ∧ Q) : PeopleAt W g x1 x2 x3 x4 x5 := h.later hS.1

theorem heldB {B : Nat} {V W : World} {Q : Prop} (h : Below B V W ∧ Q) : Below B V W := h.1
theorem matAt_of {V W : World} {b : Nat} {t : TypeId} {cs : Array Value} (k : Blk W b cs t) (hb : Below V.heap.size V W) : MatAt V cs (.pointer (some ⟨b, 0, none⟩)) (.int .i64 0) W := ⟨b, rfl, rfl, k.lt, fun i _ => k.cell i, hb⟩
/-- The five cells of a found agreement. -/
def MatIn (W : World) (b : Nat) (cs : Array Value) : Prop := b < W.heap.size ∧ ∀ i, i < 5 → W.cell? ⟨b, i, none⟩ = cs[i]?
theorem MatIn.later {V W : World} {b : Nat} {cs : Array Value} (h : MatIn V b cs) (hb : Below V.heap.size V W) : MatIn W b cs := ⟨Nat.lt_of_lt_of_le h.1 hb.size, fun i hi => (hb.cell (p := ⟨b, i, none⟩) h.1).trans (h.2 i hi)⟩
def PairsAt (V : World) (s1 s2 s3 : Value) (W : World) : Prop := ∃ A4 c4 A5 c5, s1 = .slice A4 1 c4 ∧ s2 = .slice A5 2 c5 ∧ s3 = .int .i64 0 ∧ Prs W W.heap.size A4 [(1, 3)] ∧ Prs W W.heap.size A5 [(1, 2), (2, 3)] ∧ Below V.heap.size V W

set_option maxRecDepth 100000 in
set_option maxHeartbeats 8000000 in
theorem alive_any (w : World) : Calls Tryz.prog 19 #[] w fun e w' => e = .returned (.bool true) ∧ Below w.heap.size w w' := by
  have HP := Lib.hid (fun W => lawPeople_any W)
  have HE := Lib.hid (fun W => editsC W)
  have HR := Lib.hid (fun W => lawRules_any W)
  go_enter Tryz.func19, Tryz.ntmps19
  go_upto_region 3 with (first
    | (go_at_call 45; (with_reducible refine (HP.out _).mono ?_); rintro e w1 ⟨g, x1, x2, x3, x4, x5, rfl, hwho, hp1, h1⟩)
    | (go_at_call 25; (with_reducible refine (HE.out _).mono ?_); rintro e w2 ⟨rfl, h2⟩))
  have hpV := hp1.later h2
  have hbV := h1.trans (h2.mono h1.size)
  clear hp1 h1 h2 HP HE
  generalize w2 = V3 at *
  clear w1
  have SK : ∀ W, Below V3.heap.size V3 W → Below V3.heap.size V3 W ∧ (∀ i, W.cell? ⟨g, i, none⟩ = (#[.int .i64 x1.r.id, .slice x1.A x1.r.names.length x1.c, .int .u8 x1.r.suf, .int .i64 x1.r.lo, .int .i64 x1.r.hi, .string x1.r.num, .bool x1.r.twin, .slice x1.D x1.r.stays.length x1.d, .int .i64 x2.r.id, .slice x2.A x2.r.names.length x2.c, .int .u8 x2.r.suf, .int .i64 x2.r.lo, .int .i64 x2.r.hi, .string x2.r.num, .bool x2.r.twin, .slice x2.D x2.r.stays.length x2.d, .int .i64 x3.r.id, .slice x3.A x3.r.names.length x3.c, .int .u8 x3.r.suf, .int .i64 x3.r.lo, .int .i64 x3.r.hi, .string x3.r.num, .bool x3.r.twin, .slice x3.D x3.r.stays.length x3.d, .int .i64 x4.r.id, .slice x4.A x4.r.names.length x4.c, .int .u8 x4.r.suf, .int .i64 x4.r.lo, .int .i64 x4.r.hi, .string x4.r.num, .bool x4.r.twin, .slice x4.D x4.r.stays.length x4.d, .int .i64 x5.r.id, .slice x5.A x5.r.names.length x5.c, .int .u8 x5.r.suf, .int .i64 x5.r.lo, .int .i64 x5.r.hi, .string x5.r.num, .bool x5.r.twin, .slice x5.D x5.r.stays.length x5.d] : Array Value)[i]?) := fun W hW => ⟨hW, (hpV.later hW).blk.cell⟩
  have kP := hpV.blk.cell
  have dd0 : Below V3.heap.size V3 V3.drew := (Below.refl _ _).drew
  have HC := Lib.hid (fun W (hW : PeopleAt W g x1 x2 x3 x4 x5) => compC (x1 := x1) (x2 := x2) W (M := ⟨2, 2, 3, 3, 1⟩) (by rw [hwho.e1, hwho.e2]; exact cmpC2) (by rw [hwho.e1]; decide) (by rw [hwho.e2]; decide) (hW.recs x1 (by simp)).1 (hW.recs x2 (by simp)).1 (hW.recs x1 (by simp)).2 (hW.recs x2 (by simp)).2)
  dsimp only at HC
  go_cut [4, 5] (fun s5 s6 wx => MatAt V3 #[.int .u8 2, .int .u8 2, .int .u8 3, .int .u8 3, .int .u8 1] s5 s6 wx)
  case first =>
    go_region_held3 (fun W => Below V3.heap.size V3 W ∧ (∀ i, W.cell? ⟨g, i, none⟩ = (#[.int .i64 x1.r.id, .slice x1.A x1.r.names.length x1.c, .int .u8 x1.r.suf, .int .i64 x1.r.lo, .int .i64 x1.r.hi, .string x1.r.num, .bool x1.r.twin, .slice x1.D x1.r.stays.length x1.d, .int .i64 x2.r.id, .slice x2.A x2.r.names.length x2.c, .int .u8 x2.r.suf, .int .i64 x2.r.lo, .int .i64 x2.r.hi, .string x2.r.num, .bool x2.r.twin, .slice x2.D x2.r.stays.length x2.d, .int .i64 x3.r.id, .slice x3.A x3.r.names.length x3.c, .int .u8 x3.r.suf, .int .i64 x3.r.lo, .int .i64 x3.r.hi, .string x3.r.num, .bool x3.r.twin, .slice x3.D x3.r.stays.length x3.d, .int .i64 x4.r.id, .slice x4.A x4.r.names.length x4.c, .int .u8 x4.r.suf, .int .i64 x4.r.lo, .int .i64 x4.r.hi, .string x4.r.num, .bool x4.r.twin, .slice x4.D x4.r.stays.length x4.d, .int .i64 x5.r.id, .slice x5.A x5.r.names.length x5.c, .int .u8 x5.r.suf, .int .i64 x5.r.lo, .int .i64 x5.r.hi, .string x5.r.num, .bool x5.r.twin, .slice x5.D x5.r.stays.length x5.d] : Array Value)[i]?)) ((refine SK _ ?_; repeat (first | with_reducible assumption | with_reducible exact Below.refl _ _ | with_reducible refine Below.drew ?_ | with_reducible refine Below.alloc ?_ (by first | omega | (simp; done) | (simp; omega)) _ | with_reducible refine Below.setCell ?_ (by first | omega | (simp; done) | (simp; omega)) _)))
      (first
        | (go_at_call 46; (with_reducible refine (HR.out _).mono ?_); rintro e w1 ⟨rfl, h1⟩; have d1b := rulesB3 h1 (by with_reducible assumption); have hv1 := d1b.size; have hz1 := h1.size; (try (simp at hz1)); (try (have P1 := ((Blk.new V3 #[.int .u8 0, .int .u8 0, .int .u8 0, .int .u8 0, .int .u8 0] 54).drew).below h1 (by first | omega | (simp; done) | (simp; omega)); have P1c := P1.cell; have P1f := P1.free)); (try (have Q1 := fun hX => ((newAt' V3.drew #[.int .u8 0, .int .u8 0, .int .u8 0, .int .u8 0, .int .u8 0] 54 rfl)).below h1 hX)))
        | (go_at_call 23; (with_reducible refine (HC.out _ ?_).mono ?_); exact hpV.lateS (by with_reducible assumption); rintro e w2 ⟨rfl, h2⟩; have d2b := rulesB3 h2 (by with_reducible assumption); have hz2 := h2.size; (try (simp at hz2)); have hv2 := d2b.size; (try (have R1 := P1.below h2 (by first | omega | (simp; done) | (simp; omega)); have R1c := R1.cell; have R1f := R1.free)); (try (have R3 := (Blk.new w1 #[.int .u8 0, .int .u8 0, .int .u8 0, .int .u8 0, .int .u8 0] 54).below h2 (by first | omega | (simp; done) | (simp; omega)); have R3c := R3.cell; have R3f := R3.free))))
    all_goals first | (go_step; go_step; go_meet) | (go_step; go_meet) | go_meet
    all_goals (with_reducible refine matAt_of (t := 54) ?_ (heldB (by with_reducible assumption)))
    all_goals first | with_reducible exact Blk.new _ _ _ | with_reducible exact Blk.row5Z (by with_reducible assumption) _ _ _ _ _
  case rest =>
    obtain ⟨b2, rfl, rfl, l2, g2, hbc⟩ := hcut
    have G2 : Hid (MatIn wc b2 #[.int .u8 2, .int .u8 2, .int .u8 3, .int .u8 3, .int .u8 1]) := Lib.hid ⟨l2, g2⟩
    have hpW := hpV.later hbc
    have hbW := hbV.trans (hbc.mono hbV.size)
    clear hpV hbV hbc SK kP dd0 HC l2 g2
    have hpV := hpW
    have hbV := hbW
    clear hpW hbW
    generalize wc = V4 at *
    go_upto_region 4 with fail
    have SK : ∀ W, Below V4.heap.size V4 W → Below V4.heap.size V4 W ∧ (∀ i, W.cell? ⟨g, i, none⟩ = (#[.int .i64 x1.r.id, .slice x1.A x1.r.names.length x1.c, .int .u8 x1.r.suf, .int .i64 x1.r.lo, .int .i64 x1.r.hi, .string x1.r.num, .bool x1.r.twin, .slice x1.D x1.r.stays.length x1.d, .int .i64 x2.r.id, .slice x2.A x2.r.names.length x2.c, .int .u8 x2.r.suf, .int .i64 x2.r.lo, .int .i64 x2.r.hi, .string x2.r.num, .bool x2.r.twin, .slice x2.D x2.r.stays.length x2.d, .int .i64 x3.r.id, .slice x3.A x3.r.names.length x3.c, .int .u8 x3.r.suf, .int .i64 x3.r.lo, .int .i64 x3.r.hi, .string x3.r.num, .bool x3.r.twin, .slice x3.D x3.r.stays.length x3.d, .int .i64 x4.r.id, .slice x4.A x4.r.names.length x4.c, .int .u8 x4.r.suf, .int .i64 x4.r.lo, .int .i64 x4.r.hi, .string x4.r.num, .bool x4.r.twin, .slice x4.D x4.r.stays.length x4.d, .int .i64 x5.r.id, .slice x5.A x5.r.names.length x5.c, .int .u8 x5.r.suf, .int .i64 x5.r.lo, .int .i64 x5.r.hi, .string x5.r.num, .bool x5.r.twin, .slice x5.D x5.r.stays.length x5.d] : Array Value)[i]?) := fun W hW => ⟨hW, (hpV.later hW).blk.cell⟩
    have kP := hpV.blk.cell
    have dd0 : Below V4.heap.size V4 V4.drew := (Below.refl _ _).drew
    have HC := Lib.hid (fun W (hW : PeopleAt W g x1 x2 x3 x4 x5) => compC (x1 := x1) (x2 := x3) W (M := ⟨3, 1, 3, 3, 2⟩) (by rw [hwho.e1, hwho.e3]; exact cmpC3) (by rw [hwho.e1]; decide) (by rw [hwho.e3]; decide) (hW.recs x1 (by simp)).1 (hW.recs x3 (by simp)).1 (hW.recs x1 (by simp)).2 (hW.recs x3 (by simp)).2)
    dsimp only at HC
    go_cut [6, 7] (fun s5 s6 wx => MatAt V4 #[.int .u8 3, .int .u8 1, .int .u8 3, .int .u8 3, .int .u8 2] s5 s6 wx)
    case first =>
      go_region_held3 (fun W => Below V4.heap.size V4 W ∧ (∀ i, W.cell? ⟨g, i, none⟩ = (#[.int .i64 x1.r.id, .slice x1.A x1.r.names.length x1.c, .int .u8 x1.r.suf, .int .i64 x1.r.lo, .int .i64 x1.r.hi, .string x1.r.num, .bool x1.r.twin, .slice x1.D x1.r.stays.length x1.d, .int .i64 x2.r.id, .slice x2.A x2.r.names.length x2.c, .int .u8 x2.r.suf, .int .i64 x2.r.lo, .int .i64 x2.r.hi, .string x2.r.num, .bool x2.r.twin, .slice x2.D x2.r.stays.length x2.d, .int .i64 x3.r.id, .slice x3.A x3.r.names.length x3.c, .int .u8 x3.r.suf, .int .i64 x3.r.lo, .int .i64 x3.r.hi, .string x3.r.num, .bool x3.r.twin, .slice x3.D x3.r.stays.length x3.d, .int .i64 x4.r.id, .slice x4.A x4.r.names.length x4.c, .int .u8 x4.r.suf, .int .i64 x4.r.lo, .int .i64 x4.r.hi, .string x4.r.num, .bool x4.r.twin, .slice x4.D x4.r.stays.length x4.d, .int .i64 x5.r.id, .slice x5.A x5.r.names.length x5.c, .int .u8 x5.r.suf, .int .i64 x5.r.lo, .int .i64 x5.r.hi, .string x5.r.num, .bool x5.r.twin, .slice x5.D x5.r.stays.length x5.d] : Array Value)[i]?)) ((refine SK _ ?_; repeat (first | with_reducible assumption | with_reducible exact Below.refl _ _ | with_reducible refine Below.drew ?_ | with_reducible refine Below.alloc ?_ (by first | omega | (simp; done) | (simp; omega)) _ | with_reducible refine Below.setCell ?_ (by first | omega | (simp; done) | (simp; omega)) _)))
        (first
          | (go_at_call 46; (with_reducible refine (HR.out _).mono ?_); rintro e w1 ⟨rfl, h1⟩; have d1b := rulesB3 h1 (by with_reducible assumption); have hv1 := d1b.size; have hz1 := h1.size; (try (simp at hz1)); (try (have P1 := ((Blk.new V4 #[.int .u8 0, .int .u8 0, .int .u8 0, .int .u8 0, .int .u8 0] 54).drew).below h1 (by first | omega | (simp; done) | (simp; omega)); have P1c := P1.cell; have P1f := P1.free)); (try (have Q1 := fun hX => ((newAt' V4.drew #[.int .u8 0, .int .u8 0, .int .u8 0, .int .u8 0, .int .u8 0] 54 rfl)).below h1 hX)))
          | (go_at_call 23; (with_reducible refine (HC.out _ ?_).mono ?_); exact hpV.lateS (by with_reducible assumption); rintro e w2 ⟨rfl, h2⟩; have d2b := rulesB3 h2 (by with_reducible assumption); have hz2 := h2.size; (try (simp at hz2)); have hv2 := d2b.size; (try (have R1 := P1.below h2 (by first | omega | (simp; done) | (simp; omega)); have R1c := R1.cell; have R1f := R1.free)); (try (have R3 := (Blk.new w1 #[.int .u8 0, .int .u8 0, .int .u8 0, .int .u8 0, .int .u8 0] 54).below h2 (by first | omega | (simp; done) | (simp; omega)); have R3c := R3.cell; have R3f := R3.free))))
      all_goals first | (go_step; go_step; go_meet) | (go_step; go_meet) | go_meet
      all_goals (with_reducible refine matAt_of (t := 54) ?_ (heldB (by with_reducible assumption)))
      all_goals first | with_reducible exact Blk.new _ _ _ | with_reducible exact Blk.row5Z (by with_reducible assumption) _ _ _ _ _
    case rest =>
      obtain ⟨b3, rfl, rfl, l3, g3, hbc⟩ := hcut
      have G3 : Hid (MatIn wc b3 #[.int .u8 3, .int .u8 1, .int .u8 3, .int .u8 3, .int .u8 2]) := Lib.hid ⟨l3, g3⟩
      have G2' := Lib.hid (G2.out.later hbc)
      clear G2
      have G2 := G2'
      clear G2'
      have hpW := hpV.later hbc
      have hbW := hbV.trans (hbc.mono hbV.size)
      clear hpV hbV hbc SK kP dd0 HC l3 g3
      have hpV := hpW
      have hbV := hbW
      clear hpW hbW
      generalize wc = V5 at *
      go_upto_region 5 with fail
      have SK : ∀ W, Below V5.heap.size V5 W → Below V5.heap.size V5 W ∧ (∀ i, W.cell? ⟨g, i, none⟩ = (#[.int .i64 x1.r.id, .slice x1.A x1.r.names.length x1.c, .int .u8 x1.r.suf, .int .i64 x1.r.lo, .int .i64 x1.r.hi, .string x1.r.num, .bool x1.r.twin, .slice x1.D x1.r.stays.length x1.d, .int .i64 x2.r.id, .slice x2.A x2.r.names.length x2.c, .int .u8 x2.r.suf, .int .i64 x2.r.lo, .int .i64 x2.r.hi, .string x2.r.num, .bool x2.r.twin, .slice x2.D x2.r.stays.length x2.d, .int .i64 x3.r.id, .slice x3.A x3.r.names.length x3.c, .int .u8 x3.r.suf, .int .i64 x3.r.lo, .int .i64 x3.r.hi, .string x3.r.num, .bool x3.r.twin, .slice x3.D x3.r.stays.length x3.d, .int .i64 x4.r.id, .slice x4.A x4.r.names.length x4.c, .int .u8 x4.r.suf, .int .i64 x4.r.lo, .int .i64 x4.r.hi, .string x4.r.num, .bool x4.r.twin, .slice x4.D x4.r.stays.length x4.d, .int .i64 x5.r.id, .slice x5.A x5.r.names.length x5.c, .int .u8 x5.r.suf, .int .i64 x5.r.lo, .int .i64 x5.r.hi, .string x5.r.num, .bool x5.r.twin, .slice x5.D x5.r.stays.length x5.d] : Array Value)[i]?) := fun W hW => ⟨hW, (hpV.later hW).blk.cell⟩
      have kP := hpV.blk.cell
      have dd0 : Below V5.heap.size V5 V5.drew := (Below.refl _ _).drew
      have HC := Lib.hid (fun W (hW : PeopleAt W g x1 x2 x3 x4 x5) => compC (x1 := x1) (x2 := x4) W (M := ⟨3, 1, 0, 3, 0⟩) (by rw [hwho.e1, hwho.e4]; exact cmpC4) (by rw [hwho.e1]; decide) (by rw [hwho.e4]; decide) (hW.recs x1 (by simp)).1 (hW.recs x4 (by simp)).1 (hW.recs x1 (by simp)).2 (hW.recs x4 (by simp)).2)
      dsimp only at HC
      go_cut [8, 9] (fun s5 s6 wx => MatAt V5 #[.int .u8 3, .int .u8 1, .int .u8 0, .int .u8 3, .int .u8 0] s5 s6 wx)
      case first =>
        go_region_held3 (fun W => Below V5.heap.size V5 W ∧ (∀ i, W.cell? ⟨g, i, none⟩ = (#[.int .i64 x1.r.id, .slice x1.A x1.r.names.length x1.c, .int .u8 x1.r.suf, .int .i64 x1.r.lo, .int .i64 x1.r.hi, .string x1.r.num, .bool x1.r.twin, .slice x1.D x1.r.stays.length x1.d, .int .i64 x2.r.id, .slice x2.A x2.r.names.length x2.c, .int .u8 x2.r.suf, .int .i64 x2.r.lo, .int .i64 x2.r.hi, .string x2.r.num, .bool x2.r.twin, .slice x2.D x2.r.stays.length x2.d, .int .i64 x3.r.id, .slice x3.A x3.r.names.length x3.c, .int .u8 x3.r.suf, .int .i64 x3.r.lo, .int .i64 x3.r.hi, .string x3.r.num, .bool x3.r.twin, .slice x3.D x3.r.stays.length x3.d, .int .i64 x4.r.id, .slice x4.A x4.r.names.length x4.c, .int .u8 x4.r.suf, .int .i64 x4.r.lo, .int .i64 x4.r.hi, .string x4.r.num, .bool x4.r.twin, .slice x4.D x4.r.stays.length x4.d, .int .i64 x5.r.id, .slice x5.A x5.r.names.length x5.c, .int .u8 x5.r.suf, .int .i64 x5.r.lo, .int .i64 x5.r.hi, .string x5.r.num, .bool x5.r.twin, .slice x5.D x5.r.stays.length x5.d] : Array Value)[i]?)) ((refine SK _ ?_; repeat (first | with_reducible assumption | with_reducible exact Below.refl _ _ | with_reducible refine Below.drew ?_ | with_reducible refine Below.alloc ?_ (by first | omega | (simp; done) | (simp; omega)) _ | with_reducible refine Below.setCell ?_ (by first | omega | (simp; done) | (simp; omega)) _)))
          (first
            | (go_at_call 46; (with_reducible refine (HR.out _).mono ?_); rintro e w1 ⟨rfl, h1⟩; have d1b := rulesB3 h1 (by with_reducible assumption); have hv1 := d1b.size; have hz1 := h1.size; (try (simp at hz1)); (try (have P1 := ((Blk.new V5 #[.int .u8 0, .int .u8 0, .int .u8 0, .int .u8 0, .int .u8 0] 54).drew).below h1 (by first | omega | (simp; done) | (simp; omega)); have P1c := P1.cell; have P1f := P1.free)); (try (have Q1 := fun hX => ((newAt' V5.drew #[.int .u8 0, .int .u8 0, .int .u8 0, .int .u8 0, .int .u8 0] 54 rfl)).below h1 hX)))
            | (go_at_call 23; (with_reducible refine (HC.out _ ?_).mono ?_); exact hpV.lateS (by with_reducible assumption); rintro e w2 ⟨rfl, h2⟩; have d2b := rulesB3 h2 (by with_reducible assumption); have hz2 := h2.size; (try (simp at hz2)); have hv2 := d2b.size; (try (have R1 := P1.below h2 (by first | omega | (simp; done) | (simp; omega)); have R1c := R1.cell; have R1f := R1.free)); (try (have R3 := (Blk.new w1 #[.int .u8 0, .int .u8 0, .int .u8 0, .int .u8 0, .int .u8 0] 54).below h2 (by first | omega | (simp; done) | (simp; omega)); have R3c := R3.cell; have R3f := R3.free))))
        all_goals first | (go_step; go_step; go_meet) | (go_step; go_meet) | go_meet
        all_goals (with_reducible refine matAt_of (t := 54) ?_ (heldB (by with_reducible assumption)))
        all_goals first | with_reducible exact Blk.new _ _ _ | with_reducible exact Blk.row5Z (by with_reducible assumption) _ _ _ _ _
      case rest =>
        obtain ⟨b4, rfl, rfl, l4, g4, hbc⟩ := hcut
        have G4 : Hid (MatIn wc b4 #[.int .u8 3, .int .u8 1, .int .u8 0, .int .u8 3, .int .u8 0]) := Lib.hid ⟨l4, g4⟩
        have G2' := Lib.hid (G2.out.later hbc)
        clear G2
        have G2 := G2'
        clear G2'
        have G3' := Lib.hid (G3.out.later hbc)
        clear G3
        have G3 := G3'
        clear G3'
        have hpW := hpV.later hbc
        have hbW := hbV.trans (hbc.mono hbV.size)
        clear hpV hbV hbc SK kP dd0 HC l4 g4
        have hpV := hpW
        have hbV := hbW
        clear hpW hbW
        generalize wc = V6 at *
        go_upto_region 6 with fail
        have dd0 : Below V6.heap.size V6 V6.drew := (Below.refl _ _).drew
        have HPr := Lib.hid (fun W hW => pairsC W g (hpV.later hW).three hwho.e1 hwho.e2 hwho.e3)
        go_cut [10, 11, 12] (fun s10 s11 s12 wx => PairsAt V6 s10 s11 s12 wx)
        case first =>
          go_region_held3 (fun W => Below V6.heap.size V6 W) ((repeat (first | with_reducible assumption | with_reducible exact Below.refl _ _ | with_reducible refine Below.drew ?_)))
            (first
              | (go_at_call 46; (with_reducible refine (HR.out _).mono ?_); rintro e w1 ⟨rfl, h1⟩; have d1b := rulesB2 h1 (by with_reducible assumption))
              | (go_at_call 12; (with_reducible refine (HPr.out _ ?_).mono ?_); (with_reducible assumption); rintro e w2 ⟨A4, c4, A5, c5, rfl, hq, h2⟩; have d2b := rulesB2 h2 (by with_reducible assumption)))
          all_goals first | (go_step; go_step; go_meet) | (go_step; go_meet) | go_meet
          all_goals exact ⟨A4, c4, A5, c5, rfl, rfl, rfl, hq.out.1, hq.out.2, d2b⟩
        case rest =>
          obtain ⟨A4, c4, A5, c5, rfl, rfl, rfl, q4, q5, hbc⟩ := hcut
          have HH := Lib.hid (homesC wc g (hpV.later hbc).list hwho)
          have G2' := Lib.hid (G2.out.later hbc)
          have G3' := Lib.hid (G3.out.later hbc)
          have G4' := Lib.hid (G4.out.later hbc)
          have hbW := hbV.trans (hbc.mono hbV.size)
          have Q4 := Lib.hid q4
          have Q5 := Lib.hid q5
          clear hpV hbV hbc dd0 HPr q4 q5 G2 G3 G4 HR
          generalize wc = V7 at *
          go_upto_region 8 with (go_at_call 14; (with_reducible refine (HH.out).mono ?_); rintro e w8 ⟨A8, c8, rfl, hq8, h8⟩)
          have g2 := (G2'.out.later h8).2
          have g3 := (G3'.out.later h8).2
          have g4 := (G4'.out.later h8).2
          have HS1 := Lib.hid (fun W hb => sameC1 c4 (Q4.out.later h8) W hb)
          have HS2 := Lib.hid (fun W hb => sameC2 c5 (Q5.out.later h8) W hb)
          have HS3 := Lib.hid (fun W hb => sameC3 c8 hq8.out W hb)
          have hb8 := hbW.trans (h8.mono hbW.size)
          clear hbW h8 HH Q4 Q5 G2' G3' G4' hq8
          go_wp2_with (first
            | (go_at_call 16; (with_reducible refine (HS1.out _ (Below.refl _ _)).mono ?_); rintro e w9 ⟨rfl, h9⟩)
            | (go_at_call 16; (with_reducible refine (HS2.out _ h9).mono ?_); rintro e w10 ⟨rfl, h10⟩; have e10 := h9.trans (h10.mono h9.size))
            | (go_at_call 17; (with_reducible refine (HS3.out _ e10).mono ?_); rintro e w11 ⟨rfl, h11⟩; have e11 := e10.trans (h11.mono e10.size)))
          go_ret
          exact ⟨rfl, hb8.trans (e11.mono hb8.size)⟩

end Go.Proofs.YtbkmfomdhjhkpaaGreat
