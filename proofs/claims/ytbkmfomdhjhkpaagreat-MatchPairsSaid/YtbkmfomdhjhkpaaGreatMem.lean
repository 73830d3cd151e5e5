/- What lies in memory: slices of strings, slices of stays, records; and small lemmas on lists whose elements are all tested. -/
import Derived.Test.YtbkmfomdhjhkpaaGreatSmall
import Derived.Laws.OwnMore
import Derived.Deep.AppendLies
import Derived.Deep.Draws
import Derived.Maps.AppendAt
import Derived.Deep.LoopGhost
import Derived.Deep.RegionHeld3
import Derived.Deep.QuietTactic
import Derived.Deep.DeepCutAuto
namespace Go.Proofs.YtbkmfomdhjhkpaaGreat
open Go.RowKit

section
variable {α : Type} (f : α → Bool) (l : List α) (k : Nat)
theorem all_next (hk : k < l.length) (h : (l.take k).all f = true) (hf : f l[k] = true) : (l.take (k + 1)).all f = true := by
  rw [List.take_succ_eq_append_getElem hk, List.all_append, h]; simp [hf]
theorem all_stop (hk : k < l.length) (hf : f l[k] = false) : l.all f = false := by
  rw [List.all_eq_false]; exact ⟨l[k], List.getElem_mem hk, by simpa using hf⟩
theorem all_end (hk : ¬ k < l.length) (h : (l.take k).all f = true) : l.all f = true := by
  rwa [List.take_of_length_le (by omega)] at h
end

/-- A slice at 'A' holds the words l, one cell each, below block B. -/
def Strs (w : World) (B : Nat) (A : Option Addr) (l : List ByteArray) : Prop :=
  ∀ k, (h : k < l.length) → ∃ b off, A = some ⟨b, off, none⟩ ∧ b < B ∧ w.cell? ⟨b, off + k, none⟩ = some (.string l[k]) ∧ l[k].size ≤ maxLen

theorem Strs.keep {w w' : World} {B : Nat} {A : Option Addr} {l : List ByteArray} (h : Strs w B A l) (hk : ∀ b o, b < B → w'.cell? ⟨b, o, none⟩ = w.cell? ⟨b, o, none⟩) : Strs w' B A l := fun k hl => by
  obtain ⟨b, off, rfl, hb, hc, hs⟩ := h k hl
  exact ⟨b, off, rfl, hb, (hk _ _ hb).trans hc, hs⟩
theorem Strs.below {w w' : World} {B : Nat} {A : Option Addr} {l : List ByteArray} (h : Strs w B A l) (hb : Below B w w') : Strs w' B A l := h.keep fun _ _ hp => hb.cell hp
theorem Strs.more {w : World} {B B' : Nat} {A : Option Addr} {l : List ByteArray} (h : Strs w B A l) (hB : B ≤ B') : Strs w B' A l := fun k hl => by
  obtain ⟨b, off, rfl, hb, hc, hs⟩ := h k hl
  exact ⟨b, off, rfl, by omega, hc, hs⟩

theorem Strs.alloc {w : World} {B : Nat} {A : Option Addr} {l : List ByteArray} (h : Strs w B A l) (hB : B ≤ w.heap.size) (o : Obj) : Strs (w.alloc o) B A l := h.below ((Below.refl _ _).alloc hB _)

structure Stay where
  p : Int
  f : Int
  t : Int
deriving DecidableEq

/-- A slice at 'A' holds the stays l, three cells each, below block B. -/
def Stays (w : World) (B : Nat) (A : Option Addr) (l : List Stay) : Prop :=
  ∀ k, (h : k < l.length) → ∃ b off, A = some ⟨b, off, none⟩ ∧ b < B ∧ w.cell? ⟨b, off + k * 3, none⟩ = some (.int .i64 l[k].p) ∧ w.cell? ⟨b, off + k * 3 + 1, none⟩ = some (.int .i64 l[k].f) ∧ w.cell? ⟨b, off + k * 3 + 2, none⟩ = some (.int .i64 l[k].t)

theorem Stays.keep {w w' : World} {B : Nat} {A : Option Addr} {l : List Stay} (h : Stays w B A l) (hk : ∀ b o, b < B → w'.cell? ⟨b, o, none⟩ = w.cell? ⟨b, o, none⟩) : Stays w' B A l := fun k hl => by
  obtain ⟨b, off, rfl, hb, h1, h2, h3⟩ := h k hl
  exact ⟨b, off, rfl, hb, (hk _ _ hb).trans h1, (hk _ _ hb).trans h2, (hk _ _ hb).trans h3⟩
theorem Stays.below {w w' : World} {B : Nat} {A : Option Addr} {l : List Stay} (h : Stays w B A l) (hb : Below B w w') : Stays w' B A l := h.keep fun _ _ hp => hb.cell hp
theorem Stays.more {w : World} {B B' : Nat} {A : Option Addr} {l : List Stay} (h : Stays w B A l) (hB : B ≤ B') : Stays w B' A l := fun k hl => by
  obtain ⟨b, off, rfl, hb, h1⟩ := h k hl
  exact ⟨b, off, rfl, by omega, h1⟩

theorem Stays.alloc {w : World} {B : Nat} {A : Option Addr} {l : List Stay} (h : Stays w B A l) (hB : B ≤ w.heap.size) (o : Obj) : Stays (w.alloc o) B A l := h.below ((Below.refl _ _).alloc hB _)

def wordB (s : ByteArray) : Bool := inB s.size 1 20 && allB s.data.toList 65 90
def namesB (l : List ByteArray) : Bool := inB l.length 1 5 && l.all wordB
def stayB (s : Stay) : Bool := inB s.p 0 99999 && daysB s.f s.t
def staysB (l : List Stay) : Bool := decide (l.length ≤ 6) && l.all stayB

set_option maxHeartbeats 400000 in
theorem namesValid_any (A : Option Addr) (c : Nat) (l : List ByteArray) (B : Nat) (w : World) (h : Strs w B A l) (hn : l.length ≤ maxLen) :
    Calls Tryz.prog 74 #[.slice A l.length c] w fun e w' => e = .returned (.bool (namesB l)) ∧ w = w' := by
  unfold maxLen at hn
  by_cases hl : inB l.length 1 5 = true
  · go_enter Tryz.func74, Tryz.ntmps74
    go_wp2_with (go_at_call 35; refine (within_any _ _ _ _).mono ?_; rintro e w' ⟨rfl, rfl⟩)
    go_loop [11] (fun i => ∃ k : Nat, k ≤ l.length ∧ i = .int .i64 k ∧ Hid ((l.take k).all wordB = true)) (fun i => l.length - (intOf i).toNat)
    case atStart => exact ⟨0, Nat.zero_le _, rfl, rfl⟩
    case round =>
      obtain ⟨k, hk, rfl, hall⟩ := hrel
      by_cases hlt : k < l.length
      · obtain ⟨b, off, rfl, hb, hc, hs⟩ := h k hlt
        have HN := Lib.hid (all_next wordB l k hlt hall.out)
        have HS := Lib.hid (all_stop wordB l k hlt)
        generalize l[k] = s at hc hs HN HS
        go_wp2_with (first
          | (go_at_call 35; refine (within_any _ _ _ _).mono ?_; rintro e w' ⟨rfl, rfl⟩)
          | (go_at_call 94; refine (only_any _ _ _ _ hs).mono ?_; rintro e w' ⟨rfl, rfl⟩))
        · have h1 : inB (s.size : Int) 1 20 = false := by assumption
          go_ret
          exact ⟨ret_bool (by rw [namesB, HS.out (by rw [wordB, h1]; rfl), Bool.and_false]), rfl⟩
        · have h1 : (!allB s.data.toList 65 90) = true := by assumption
          go_ret
          exact ⟨ret_bool (by rw [namesB, HS.out (by rw [wordB]; simp at h1; rw [h1, Bool.and_false]), Bool.and_false]), rfl⟩
        · have h1 : inB (s.size : Int) 1 20 = true := by assumption
          have h2 : (!allB s.data.toList 65 90) = false := by assumption
          go_round
          case rel => exact ⟨k + 1, by omega, by go_num, Lib.hid (HN.out (by simp at h2; rw [wordB, h1, h2]; rfl))⟩
          case measure => simp [intOf]; omega
      · go_wp2
        go_ret
        exact ⟨ret_bool (by rw [namesB, hl, all_end wordB l k hlt hall.out]; rfl), rfl⟩
  · have hl' : inB l.length 1 5 = false := by simpa using hl
    go_enter Tryz.func74, Tryz.ntmps74
    go_wp2_with (go_at_call 35; refine (within_any _ _ _ _).mono ?_; rintro e w' ⟨rfl, rfl⟩)
    go_ret
    exact ⟨ret_bool (by simp [namesB, hl']), rfl⟩

/-- What a call leaves of old memory, in the walk's own words. -/
theorem bcell {W w1 : World} {B : Nat} (hb : Below B W w1) : (∀ b o, b < B → w1.cell? ⟨b, o, none⟩ = W.cell? ⟨b, o, none⟩) ∧ (∀ b o, b < B → w1.frozen? ⟨b, o, none⟩ = W.frozen? ⟨b, o, none⟩) :=
  ⟨fun b o h => hb.cell (p := ⟨b, o, none⟩) h, fun b o h => hb.frozen (p := ⟨b, o, none⟩) h⟩

set_option maxHeartbeats 400000 in
theorem staysValid_any (A : Option Addr) (c : Nat) (l : List Stay) (w : World) (h : Stays w w.heap.size A l) (hn : l.length ≤ maxLen) :
    Calls Tryz.prog 77 #[.slice A l.length c] w fun e w' => e = .returned (.bool (staysB l)) ∧ Below w.heap.size w w' := by
  unfold maxLen at hn
  by_cases hl : l.length ≤ 6
  · have hl' : ¬ (6 : Int) < (l.length : Int) := by omega
    go_enter Tryz.func77, Tryz.ntmps77
    go_wp2
    go_loopw [10] (fun i wr => ∃ k : Nat, k ≤ l.length ∧ i = .int .i64 k ∧ Hid ((l.take k).all stayB = true) ∧ Below w.heap.size w wr) (fun i _ => l.length - (intOf i).toNat)
    case atStart => exact ⟨0, Nat.zero_le _, rfl, rfl, Below.refl _ _⟩
    case round =>
      obtain ⟨k, hk, rfl, hall, hbel⟩ := hrel
      by_cases hlt : k < l.length
      · obtain ⟨b, off, rfl, hb, c1, c2, c3⟩ := (h.below hbel) k hlt
        have HN := Lib.hid (all_next stayB l k hlt hall.out)
        have HS := Lib.hid (all_stop stayB l k hlt)
        generalize l[k] = s at c1 c2 c3 HN HS
        have hsz := hbel.size
        go_wp2_with (first
          | (go_at_call 35; refine (within_any _ _ _ _).mono ?_; rintro e w' ⟨rfl, rfl⟩)
          | (go_at_call 75; refine (daysValid_any _ _ _).mono ?_; rintro e w' ⟨rfl, rfl⟩))
        · have h1 : inB s.p 0 99999 = false := by assumption
          go_ret
          exact ⟨ret_bool (by rw [staysB, HS.out (by rw [stayB, h1]; rfl), Bool.and_false]), hbel.alloc (by omega) _⟩
        · have h1 : (!daysB s.f s.t) = true := by assumption
          go_ret
          exact ⟨ret_bool (by rw [staysB, HS.out (by rw [stayB]; simp at h1; rw [h1, Bool.and_false]), Bool.and_false]), hbel.alloc (by omega) _⟩
        · have h1 : inB s.p 0 99999 = true := by assumption
          have h2 : (!daysB s.f s.t) = false := by assumption
          go_roundw
          case rel => exact ⟨k + 1, by omega, by go_num, Lib.hid (HN.out (by simp at h2; rw [stayB, h1, h2]; rfl)), hbel.alloc (by omega) _⟩
          case measure => simp [intOf]; omega
      · go_wp2
        go_ret
        exact ⟨ret_bool (by rw [staysB, all_end stayB l k hlt hall.out]; simp [hl]), hbel⟩
  · have hl' : (6 : Int) < (l.length : Int) := by omega
    go_enter Tryz.func77, Tryz.ntmps77
    go_wp2
    go_ret
    exact ⟨ret_bool (by simp [staysB, hl]), Below.refl _ _⟩

structure Rec where
  id : Int
  names : List ByteArray
  suf : Int
  lo : Int
  hi : Int
  num : ByteArray
  twin : Bool
  stays : List Stay
deriving DecidableEq

structure Rul where
  l : Int
  d : Int
  y : Int
  t : Int
deriving DecidableEq

/-- A record whose slices lie at A and D, below block B. -/
structure RecAt (w : World) (B : Nat) (A D : Option Addr) (r : Rec) : Prop where
  strs : Strs w B A r.names
  stays : Stays w B D r.stays
  names_le : r.names.length ≤ maxLen
  stays_le : r.stays.length ≤ maxLen
  num_le : r.num.size ≤ maxLen

theorem RecAt.below {w w' : World} {B : Nat} {A D : Option Addr} {r : Rec} (h : RecAt w B A D r) (hb : Below B w w') : RecAt w' B A D r :=
  ⟨h.strs.below hb, h.stays.below hb, h.names_le, h.stays_le, h.num_le⟩
theorem RecAt.more {w : World} {B B' : Nat} {A D : Option Addr} {r : Rec} (h : RecAt w B A D r) (hB : B ≤ B') : RecAt w B' A D r :=
  ⟨h.strs.more hB, h.stays.more hB, h.names_le, h.stays_le, h.num_le⟩
theorem RecAt.alloc {w : World} {B : Nat} {A D : Option Addr} {r : Rec} (h : RecAt w B A D r) (hB : B ≤ w.heap.size) (o : Obj) : RecAt (w.alloc o) B A D r := h.below ((Below.refl _ _).alloc hB _)

def recB (r : Rec) : Bool := inB r.id 0 999999 && namesB r.names && decide (r.suf ≤ 2) && daysB r.lo r.hi && numB r.num.data.toList && staysB r.stays

set_option maxHeartbeats 400000 in
theorem recordValid_any (A D : Option Addr) (c d : Nat) (r : Rec) (w : World) (h : RecAt w w.heap.size A D r) :
    Calls Tryz.prog 54 #[.agg #[.int .i64 r.id, .slice A r.names.length c, .int .u8 r.suf, .int .i64 r.lo, .int .i64 r.hi, .string r.num, .bool r.twin, .slice D r.stays.length d]] w fun e w' => e = .returned (.bool (recB r)) ∧ Below w.heap.size w w' := by
  have h2 : RecAt (w.alloc (.cells #[.int .i64 r.id, .slice A r.names.length c, .int .u8 r.suf, .int .i64 r.lo, .int .i64 r.hi, .string r.num, .bool r.twin, .slice D r.stays.length d] 47)) (w.heap.size + 1) A D r := (h.below ((Below.refl _ _).alloc (Nat.le_refl _) _)).more (by omega)
  go_enter Tryz.func54, Tryz.ntmps54
  go_wp2_with (first
    | (go_at_call 35; refine (within_any _ _ _ _).mono ?_; rintro e w' ⟨rfl, rfl⟩)
    | (go_at_call 74; refine (namesValid_any _ _ _ _ _ h2.strs h2.names_le).mono ?_; rintro e w' ⟨rfl, rfl⟩)
    | (go_at_call 75; refine (daysValid_any _ _ _).mono ?_; rintro e w' ⟨rfl, rfl⟩)
    | (go_at_call 76; refine (numberValid_any _ _ h2.num_le).mono ?_; rintro e w' ⟨rfl, rfl⟩)
    | (go_at_call 77; refine (staysValid_any _ _ _ _ (by simpa using h2.stays) h2.stays_le).mono ?_; rintro e w1 ⟨rfl, hb1⟩))
  · go_ret
    exact ⟨ret_bool (by simp [recB, *]), ((Below.refl _ _).alloc (Nat.le_refl _) _).trans (hb1.mono (by simp))⟩
  · go_ret
    exact ⟨ret_bool (by simp [recB, *]), (Below.refl _ _).alloc (Nat.le_refl _) _⟩
  · go_ret
    exact ⟨ret_bool (by simp [recB, *]), (Below.refl _ _).alloc (Nat.le_refl _) _⟩
  · have h1 : (2 : Int) < r.suf := by assumption
    have h2 : ¬ r.suf ≤ 2 := by omega
    go_ret
    exact ⟨ret_bool (by simp [recB, h2]), (Below.refl _ _).alloc (Nat.le_refl _) _⟩
  · go_ret
    exact ⟨ret_bool (by simp [recB, *]), (Below.refl _ _).alloc (Nat.le_refl _) _⟩
  · go_ret
    exact ⟨ret_bool (by simp [recB, *]), (Below.refl _ _).alloc (Nat.le_refl _) _⟩

end Go.Proofs.YtbkmfomdhjhkpaaGreat
