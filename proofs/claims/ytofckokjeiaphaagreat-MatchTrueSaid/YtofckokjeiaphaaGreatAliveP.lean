/- The chapter's rules and people, as the statements build them. -/
import Derived.Test.YtofckokjeiaphaaGreatSameL
namespace Go.Proofs.YtofckokjeiaphaaGreat
open Go.RowKit

def rulC : Rul := ⟨2, 1, 30, 10⟩
abbrev wSMITH : ByteArray := { data := #[83, 77, 73, 84, 72] }
abbrev wJOHN : ByteArray := { data := #[74, 79, 72, 78] }
abbrev wPAUL : ByteArray := { data := #[80, 65, 85, 76] }
abbrev wSMYTH : ByteArray := { data := #[83, 77, 89, 84, 72] }
abbrev wJ : ByteArray := { data := #[74] }
def recC1 : Rec := ⟨1, [wSMITH, wJOHN, wPAUL], 0, 5000, 5000, { data := #[49, 50, 51, 52, 53, 54, 55, 56, 57] }, false, [⟨7, 100, 200⟩]⟩
def recC2 : Rec := ⟨2, [wSMYTH, wJOHN], 0, 5000, 5000, { data := #[49, 50, 51, 52, 53, 54, 55, 56, 48] }, false, [⟨7, 150, 300⟩]⟩
def recC3 : Rec := ⟨3, [wSMITH, wJ], 0, 5000, 5000, { data := #[] }, false, [⟨7, 180, 190⟩]⟩
def recC4 : Rec := ⟨4, [wSMITH, wJOHN], 2, 14000, 14100, { data := #[] }, false, [⟨7, 100, 400⟩]⟩
def recC5 : Rec := ⟨5, [wSMITH, wJOHN, wPAUL], 1, 5000, 5000, { data := #[57, 56, 55, 54, 53, 52, 51, 50, 49] }, false, [⟨8, 0, 50⟩]⟩
def peopleC : List Rec := [recC1, recC2, recC3, recC4, recC5]

def recCells (x : RD) : List Value := [.int .i64 x.r.id, .slice x.A x.r.names.length x.c, .int .u8 x.r.suf, .int .i64 x.r.lo, .int .i64 x.r.hi, .string x.r.num, .bool x.r.twin, .slice x.D x.r.stays.length x.d]
theorem recCells_get : ∀ (l : List RD) (k : Nat) (h : k < l.length) (i : Nat), i < 8 → (l.flatMap recCells)[k * 8 + i]? = (recCells l[k])[i]?
  | x :: l, 0, _, i, hi => by
    rw [List.flatMap_cons, Nat.zero_mul, Nat.zero_add, List.getElem?_append_left (by simpa [recCells] using hi)]; rfl
  | x :: l, k + 1, h, i, hi => by
    have ih := recCells_get l k (by simpa using h) i hi
    rw [List.flatMap_cons, List.getElem?_append_right (by simp [recCells]; omega), show (k + 1) * 8 + i - (recCells x).length = k * 8 + i by simp [recCells]; omega]
    exact ih
theorem strs_of {W : World} {g B : Nat} {cs : Array Value} {t : TypeId} {l : List ByteArray} (h : Blk W g cs t) (hg : g < B) (hc : cs.toList = l.map .string) (hs : ∀ x ∈ l, x.size ≤ maxLen) : Strs W B (some ⟨g, 0, none⟩) l := fun k hk =>
  ⟨g, 0, rfl, hg, by rw [Nat.zero_add, h.cell, ← Array.getElem?_toList, hc]; simp [hk], hs _ (List.getElem_mem hk)⟩
theorem stays_of {W : World} {g B : Nat} {p f t : Int} {ty : TypeId} (h : Blk W g #[.int .i64 p, .int .i64 f, .int .i64 t] ty) (hg : g < B) : Stays W B (some ⟨g, 0, none⟩) [⟨p, f, t⟩] := fun k hk => by
  obtain rfl : k = 0 := by simp at hk; exact hk
  exact ⟨g, 0, rfl, hg, h.cell 0, h.cell 1, h.cell 2⟩
theorem recs_of {W : World} {g B : Nat} {cs : Array Value} {t : TypeId} {l : List RD} (h : Blk W g cs t) (hg : g < B) (hc : cs.toList = l.flatMap recCells) (hr : ∀ x ∈ l, RecAt W B x.A x.D x.r ∧ x.r.names.length ≤ x.c) : Recs W B (some ⟨g, 0, none⟩) l := fun k hk =>
  ⟨g, 0, rfl, hg, fun i hi => by
    rw [Nat.zero_add, h.cell, ← Array.getElem?_toList, hc, recCells_get l k hk i hi, ← Array.getElem?_toList]; rfl, hr _ (List.getElem_mem hk)⟩
theorem newAt (w : World) (cs : Array Value) (t : TypeId) {g : Nat} (hg : g = w.heap.size) : Blk (w.alloc (.cells cs t)) g cs t := hg ▸ Blk.new w cs t
theorem step2 {V V' F : World} {o1 o2 : Obj} (k : Below ((V.alloc o1).alloc o2).heap.size ((V.alloc o1).alloc o2) V') (f : Below V'.heap.size V' F) : Below ((V.alloc o1).alloc o2).heap.size ((V.alloc o1).alloc o2) F := k.trans (f.mono k.size)
theorem step1 {V V' F : World} {o1 o2 : Obj} (_ : Below ((V.alloc o1).alloc o2).heap.size ((V.alloc o1).alloc o2) V') (f : Below ((V.alloc o1).alloc o2).heap.size ((V.alloc o1).alloc o2) F) : Below V.heap.size V F :=
  (((Below.refl _ _).alloc (Nat.le_refl _) _).alloc (by simp) _).trans (f.mono (by simp; omega))

set_option maxHeartbeats 400000 in
theorem lawRules_any (w : World) : Calls Tryz.prog 46 #[] w fun e w' => e = .returned (.agg #[.int .i64 2, .int .i64 1, .int .i64 30, .int .i64 10]) ∧ Below w.heap.size w w' := by
  go_enter Tryz.func46, Tryz.ntmps46
  go_wp2_with fail
  have k := (Blk.new w #[.int .i64 2, .int .i64 1, .int .i64 30, .int .i64 10] 23).cell
  have hb : Below w.heap.size w (w.alloc (.cells #[.int .i64 2, .int .i64 1, .int .i64 30, .int .i64 10] 23)) := (Below.refl _ _).alloc (Nat.le_refl _) _
  generalize w.alloc (.cells #[.int .i64 2, .int .i64 1, .int .i64 30, .int .i64 10] 23) = W at *
  have k0 := k 0
  have k1 := k 1
  have k2 := k 2
  have k3 := k 3
  refine bodyPost_ret (v := .agg #[.int .i64 2, .int .i64 1, .int .i64 30, .int .i64 10]) ?hres rfl ?hpost
  case hres => simp [results, Tryz.results46, go_sem, k0, k1, k2, k3]
  case hpost => exact ⟨rfl, hb⟩

set_option maxHeartbeats 400000 in
theorem lawSpan_any (lo hi : Int) (w : World) : Calls Tryz.prog 50 #[.int .i64 lo, .int .i64 hi] w fun e w' => e = .returned (.agg #[.int .i64 lo, .int .i64 hi]) ∧ Below w.heap.size w w' := by
  go_enter Tryz.func50, Tryz.ntmps50
  go_wp2_with fail
  have k := (Blk.new w #[.int .i64 lo, .int .i64 hi] 44).cell
  have hb : Below w.heap.size w (w.alloc (.cells #[.int .i64 lo, .int .i64 hi] 44)) := (Below.refl _ _).alloc (Nat.le_refl _) _
  generalize w.alloc (.cells #[.int .i64 lo, .int .i64 hi] 44) = W at *
  have k0 := k 0
  have k1 := k 1
  refine bodyPost_ret (v := .agg #[.int .i64 lo, .int .i64 hi]) ?hres rfl ?hpost
  case hres => simp [results, Tryz.results50, go_sem, k0, k1]
  case hpost => exact ⟨rfl, hb⟩

theorem szC1 : (∀ x ∈ recC1.names, x.size ≤ maxLen) ∧ recC1.names.length ≤ maxLen ∧ recC1.stays.length ≤ maxLen ∧ recC1.num.size ≤ maxLen := by decide +kernel
theorem szC2 : (∀ x ∈ recC2.names, x.size ≤ maxLen) ∧ recC2.names.length ≤ maxLen ∧ recC2.stays.length ≤ maxLen ∧ recC2.num.size ≤ maxLen := by decide +kernel
theorem szC3 : (∀ x ∈ recC3.names, x.size ≤ maxLen) ∧ recC3.names.length ≤ maxLen ∧ recC3.stays.length ≤ maxLen ∧ recC3.num.size ≤ maxLen := by decide +kernel
theorem szC4 : (∀ x ∈ recC4.names, x.size ≤ maxLen) ∧ recC4.names.length ≤ maxLen ∧ recC4.stays.length ≤ maxLen ∧ recC4.num.size ≤ maxLen := by decide +kernel
theorem szC5 : (∀ x ∈ recC5.names, x.size ≤ maxLen) ∧ recC5.names.length ≤ maxLen ∧ recC5.stays.length ≤ maxLen ∧ recC5.num.size ≤ maxLen := by decide +kernel
structure PeopleAt (W : World) (g : Nat) (x1 x2 x3 x4 x5 : RD) : Prop where
  blk : Blk W g #[.int .i64 x1.r.id, .slice x1.A x1.r.names.length x1.c, .int .u8 x1.r.suf, .int .i64 x1.r.lo, .int .i64 x1.r.hi, .string x1.r.num, .bool x1.r.twin, .slice x1.D x1.r.stays.length x1.d, .int .i64 x2.r.id, .slice x2.A x2.r.names.length x2.c, .int .u8 x2.r.suf, .int .i64 x2.r.lo, .int .i64 x2.r.hi, .string x2.r.num, .bool x2.r.twin, .slice x2.D x2.r.stays.length x2.d, .int .i64 x3.r.id, .slice x3.A x3.r.names.length x3.c, .int .u8 x3.r.suf, .int .i64 x3.r.lo, .int .i64 x3.r.hi, .string x3.r.num, .bool x3.r.twin, .slice x3.D x3.r.stays.length x3.d, .int .i64 x4.r.id, .slice x4.A x4.r.names.length x4.c, .int .u8 x4.r.suf, .int .i64 x4.r.lo, .int .i64 x4.r.hi, .string x4.r.num, .bool x4.r.twin, .slice x4.D x4.r.stays.length x4.d, .int .i64 x5.r.id, .slice x5.A x5.r.names.length x5.c, .int .u8 x5.r.suf, .int .i64 x5.r.lo, .int .i64 x5.r.hi, .string x5.r.num, .bool x5.r.twin, .slice x5.D x5.r.stays.length x5.d] 47
  recs : ∀ x ∈ [x1, x2, x3, x4, x5], RecAt W W.heap.size x.A x.D x.r ∧ x.r.names.length ≤ x.c
theorem PeopleAt.later {V W : World} {g : Nat} {x1 x2 x3 x4 x5 : RD} (h : PeopleAt V g x1 x2 x3 x4 x5) (hb : Below V.heap.size V W) : PeopleAt W g x1 x2 x3 x4 x5 :=
  ⟨h.blk.below hb h.blk.lt, fun x hx => ⟨(h.recs x hx).1.later hb, (h.recs x hx).2⟩⟩
theorem PeopleAt.list {W : World} {g : Nat} {x1 x2 x3 x4 x5 : RD} (h : PeopleAt W g x1 x2 x3 x4 x5) : Recs W W.heap.size (some ⟨g, 0, none⟩) [x1, x2, x3, x4, x5] :=
  recs_of h.blk h.blk.lt rfl h.recs
theorem PeopleAt.three {W : World} {g : Nat} {x1 x2 x3 x4 x5 : RD} (h : PeopleAt W g x1 x2 x3 x4 x5) : Recs W W.heap.size (some ⟨g, 0, none⟩) [x1, x2, x3] := fun k hk => by
  match k, hk with
  | 0, _ => exact h.list 0 (by simp)
  | 1, _ => exact h.list 1 (by simp)
  | 2, _ => exact h.list 2 (by simp)

structure WhoC (x1 x2 x3 x4 x5 : RD) : Prop where
  e1 : x1.r = recC1
  e2 : x2.r = recC2
  e3 : x3.r = recC3
  e4 : x4.r = recC4
  e5 : x5.r = recC5

abbrev st3 (p f t : Int) : Obj := .cells #[.int .i64 p, .int .i64 f, .int .i64 t] 75
abbrev nm3 (x y z : ByteArray) : Obj := .cells #[.string x, .string y, .string z] 9
abbrev nm2 (x y : ByteArray) : Obj := .cells #[.string x, .string y] 9
theorem people_end {w a1 a2 a3 a4 w1 F : World} {cs : Array Value}
    (k1 : Below (w.alloc (nm3 wSMITH wJOHN wPAUL)).heap.size (w.alloc (nm3 wSMITH wJOHN wPAUL)) a1)
    (k2 : Below ((a1.alloc (st3 7 100 200)).alloc (nm2 wSMYTH wJOHN)).heap.size ((a1.alloc (st3 7 100 200)).alloc (nm2 wSMYTH wJOHN)) a2)
    (k3 : Below ((a2.alloc (st3 7 150 300)).alloc (nm2 wSMITH wJ)).heap.size ((a2.alloc (st3 7 150 300)).alloc (nm2 wSMITH wJ)) a3)
    (k4 : Below ((a3.alloc (st3 7 180 190)).alloc (nm2 wSMITH wJOHN)).heap.size ((a3.alloc (st3 7 180 190)).alloc (nm2 wSMITH wJOHN)) a4)
    (h1 : Below ((a4.alloc (st3 7 100 400)).alloc (nm3 wSMITH wJOHN wPAUL)).heap.size ((a4.alloc (st3 7 100 400)).alloc (nm3 wSMITH wJOHN wPAUL)) w1)
    (hF : F = (w1.alloc (st3 8 0 50)).alloc (.cells cs 47))
    (hcs : cs = ([(⟨recC1, some ⟨w.heap.size, 0, none⟩, 3, some ⟨a1.heap.size, 0, none⟩, 1⟩ : RD), ⟨recC2, some ⟨a1.heap.size + 1, 0, none⟩, 2, some ⟨a2.heap.size, 0, none⟩, 1⟩, ⟨recC3, some ⟨a2.heap.size + 1, 0, none⟩, 2, some ⟨a3.heap.size, 0, none⟩, 1⟩, ⟨recC4, some ⟨a3.heap.size + 1, 0, none⟩, 2, some ⟨a4.heap.size, 0, none⟩, 1⟩, ⟨recC5, some ⟨a4.heap.size + 1, 0, none⟩, 3, some ⟨w1.heap.size, 0, none⟩, 1⟩].flatMap recCells).toArray) :
    PeopleAt F (w1.heap.size + 1) ⟨recC1, some ⟨w.heap.size, 0, none⟩, 3, some ⟨a1.heap.size, 0, none⟩, 1⟩ ⟨recC2, some ⟨a1.heap.size + 1, 0, none⟩, 2, some ⟨a2.heap.size, 0, none⟩, 1⟩ ⟨recC3, some ⟨a2.heap.size + 1, 0, none⟩, 2, some ⟨a3.heap.size, 0, none⟩, 1⟩ ⟨recC4, some ⟨a3.heap.size + 1, 0, none⟩, 2, some ⟨a4.heap.size, 0, none⟩, 1⟩ ⟨recC5, some ⟨a4.heap.size + 1, 0, none⟩, 3, some ⟨w1.heap.size, 0, none⟩, 1⟩ ∧ Below w.heap.size w F := by
  have F5 := ((Below.refl w1.heap.size w1).alloc (Nat.le_refl _) (st3 8 0 50)).alloc (by simp) (.cells cs 47)
  have S5 := (Blk.new w1 #[.int .i64 8, .int .i64 0, .int .i64 50] 75).alloc (.cells cs 47)
  have R := newAt (w1.alloc (st3 8 0 50)) cs 47 (World.size_alloc _ _).symm
  rw [← hF] at F5 S5 R
  clear hF
  have Y4 := step2 h1 F5
  have F4' := step1 h1 Y4
  have Y3 := step2 k4 F4'
  have F3' := step1 k4 Y3
  have Y2 := step2 k3 F3'
  have F2' := step1 k3 Y2
  have Y1 := step2 k2 F2'
  have F1' := step1 k2 Y1
  have Y0 := k1.trans (F1'.mono k1.size)
  have N1 := (Blk.new w #[.string wSMITH, .string wJOHN, .string wPAUL] 9).below Y0 (by simp)
  have S1 := ((Blk.new a1 #[.int .i64 7, .int .i64 100, .int .i64 200] 75).alloc (nm2 wSMYTH wJOHN)).below Y1 (by simp; omega)
  have N2 := (newAt (a1.alloc (st3 7 100 200)) #[.string wSMYTH, .string wJOHN] 9 (World.size_alloc _ _).symm).below Y1 (by simp)
  have S2 := ((Blk.new a2 #[.int .i64 7, .int .i64 150, .int .i64 300] 75).alloc (nm2 wSMITH wJ)).below Y2 (by simp; omega)
  have N3 := (newAt (a2.alloc (st3 7 150 300)) #[.string wSMITH, .string wJ] 9 (World.size_alloc _ _).symm).below Y2 (by simp)
  have S3 := ((Blk.new a3 #[.int .i64 7, .int .i64 180, .int .i64 190] 75).alloc (nm2 wSMITH wJOHN)).below Y3 (by simp; omega)
  have N4 := (newAt (a3.alloc (st3 7 180 190)) #[.string wSMITH, .string wJOHN] 9 (World.size_alloc _ _).symm).below Y3 (by simp)
  have S4 := ((Blk.new a4 #[.int .i64 7, .int .i64 100, .int .i64 400] 75).alloc (nm3 wSMITH wJOHN wPAUL)).below Y4 (by simp; omega)
  have N5 := (newAt (a4.alloc (st3 7 100 400)) #[.string wSMITH, .string wJOHN, .string wPAUL] 9 (World.size_alloc _ _).symm).below Y4 (by simp)
  have hb : Below w.heap.size w F := ((Below.refl _ _).alloc (Nat.le_refl _) _).trans (Y0.mono (by simp))
  clear k1 k2 k3 k4 h1 F5 F4' F3' F2' F1' Y0 Y1 Y2 Y3 Y4
  rw [hcs] at R
  refine ⟨⟨R, ?_⟩, hb⟩
  intro x hx
  simp only [List.mem_cons, List.not_mem_nil, or_false] at hx
  rcases hx with rfl | rfl | rfl | rfl | rfl
  · exact ⟨⟨strs_of N1 N1.lt rfl szC1.1, stays_of S1 S1.lt, szC1.2.1, szC1.2.2.1, szC1.2.2.2⟩, Nat.le_refl _⟩
  · exact ⟨⟨strs_of N2 N2.lt rfl szC2.1, stays_of S2 S2.lt, szC2.2.1, szC2.2.2.1, szC2.2.2.2⟩, Nat.le_refl _⟩
  · exact ⟨⟨strs_of N3 N3.lt rfl szC3.1, stays_of S3 S3.lt, szC3.2.1, szC3.2.2.1, szC3.2.2.2⟩, Nat.le_refl _⟩
  · exact ⟨⟨strs_of N4 N4.lt rfl szC4.1, stays_of S4 S4.lt, szC4.2.1, szC4.2.2.1, szC4.2.2.2⟩, Nat.le_refl _⟩
  · exact ⟨⟨strs_of N5 N5.lt rfl szC5.1, stays_of S5 S5.lt, szC5.2.1, szC5.2.2.1, szC5.2.2.2⟩, Nat.le_refl _⟩

set_option maxRecDepth 100000 in
set_option maxHeartbeats 1000000 in
theorem lawPeople_any (w : World) : Calls Tryz.prog 45 #[] w fun e w' => ∃ g x1 x2 x3 x4 x5, e = .returned (.slice (some ⟨g, 0, none⟩) 5 5) ∧ WhoC x1 x2 x3 x4 x5 ∧ PeopleAt w' g x1 x2 x3 x4 x5 ∧ Below w.heap.size w w' := by
  go_enter Tryz.func45, Tryz.ntmps45
  go_wp2_with (first
    | (go_at_call 50; with_reducible refine (lawSpan_any _ _ _).mono ?_; rintro e w1 ⟨rfl, h1⟩))
  rename_i a1 k1 a2 k2 a3 k3 a4 k4
  go_ret
  exact ⟨_, _, _, _, _, _, rfl, ⟨rfl, rfl, rfl, rfl, rfl⟩, people_end k1 k2 k3 k4 h1 rfl rfl⟩

end Go.Proofs.YtofckokjeiaphaaGreat
