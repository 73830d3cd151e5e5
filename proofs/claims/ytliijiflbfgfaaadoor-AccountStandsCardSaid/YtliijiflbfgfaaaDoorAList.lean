/- Lists of reports in memory; at which place one has a number. -/
import Derived.Test.YtliijiflbfgfaaaDoorARef
import Derived.Test.YtliijiflbfgfaaaDoorAProg
import Derived.Test.YtliijiflbfgfaaaDoorAHear

namespace Go.Proofs.YtliijiflbfgfaaaDoor
open Go.RowKit Go.Maps

/-- The slice of reports at A holds l, below block B. -/
def Reps (w : World) (B : Nat) (A : Option Addr) (l : List Rep) : Prop :=
  ∀ k, (h : k < l.length) → ∃ b off, A = some ⟨b, off, none⟩ ∧ b < B ∧ ∀ i, i < 8 → w.cell? ⟨b, off + k * 8 + i, none⟩ = (#[.int .i64 l[k].id, .int .i64 l[k].src, .int .i64 l[k].acc, .int .i64 l[k].made, .int .i64 l[k].about, .int .u8 l[k].kind, .int .i64 l[k].cents, .int .i64 l[k].of_] : Array Value)[i]?
theorem Reps.below {w w' : World} {B : Nat} {A : Option Addr} {l : List Rep} (h : Reps w B A l) (hb : Below B w w') : Reps w' B A l := fun k hk => by
  obtain ⟨b, off, e, h1, h2⟩ := h k hk
  exact ⟨b, off, e, h1, fun i hi => (hb.cell (p := ⟨b, off + k * 8 + i, none⟩) h1).trans (h2 i hi)⟩
theorem Reps.more {w : World} {B B' : Nat} {A : Option Addr} {l : List Rep} (h : Reps w B A l) (hB : B ≤ B') : Reps w B' A l := fun k hk => by
  obtain ⟨b, off, e, h1, h2⟩ := h k hk
  exact ⟨b, off, e, by omega, h2⟩
theorem Reps.later {w0 W : World} {A : Option Addr} {l : List Rep} (h : Reps w0 w0.heap.size A l) (hb : Below w0.heap.size w0 W) : Reps W W.heap.size A l := (h.below hb).more hb.size
theorem Reps.after {w0 : World} {B : Nat} {A : Option Addr} {l : List Rep} (h : Reps w0 w0.heap.size A l) (hB : w0.heap.size ≤ B) (x : After B w0) : Reps x.val x.val.heap.size A l := h.later (x.property.mono hB)
/-- Eight cells of a report, one after the other. -/
structure Rep8 (w : World) (b o : Nat) (x : Rep) : Prop where
  c0 : w.cell? ⟨b, o, none⟩ = some (.int .i64 x.id)
  c1 : w.cell? ⟨b, o + 1, none⟩ = some (.int .i64 x.src)
  c2 : w.cell? ⟨b, o + 2, none⟩ = some (.int .i64 x.acc)
  c3 : w.cell? ⟨b, o + 3, none⟩ = some (.int .i64 x.made)
  c4 : w.cell? ⟨b, o + 4, none⟩ = some (.int .i64 x.about)
  c5 : w.cell? ⟨b, o + 5, none⟩ = some (.int .u8 x.kind)
  c6 : w.cell? ⟨b, o + 6, none⟩ = some (.int .i64 x.cents)
  c7 : w.cell? ⟨b, o + 7, none⟩ = some (.int .i64 x.of_)
theorem Reps.eight {w : World} {B : Nat} {A : Option Addr} {l : List Rep} (h : Reps w B A l) {k : Nat} (hk : k < l.length) : ∃ b off, A = some ⟨b, off, none⟩ ∧ b < B ∧ Rep8 w b (off + k * 8) l[k] := by
  obtain ⟨b, off, e, h1, h2⟩ := h k hk
  exact ⟨b, off, e, h1, ⟨h2 0 (by omega), h2 1 (by omega), h2 2 (by omega), h2 3 (by omega), h2 4 (by omega), h2 5 (by omega), h2 6 (by omega), h2 7 (by omega)⟩⟩

/-! At which place one has a number. -/
def ixR (l : List Rep) (id : Int) : Int := match l.findIdx? fun r => decide (r.id = id) with
  | some k => (k : Int)
  | none => -1
theorem ixR_none {l : List Rep} {id : Int} (h : ∀ r ∈ l, r.id ≠ id) : ixR l id = -1 := by
  have e : (l.findIdx? fun r => decide (r.id = id)) = none := by
    rw [List.findIdx?_eq_none_iff]
    intro r hr
    simpa using h r hr
  unfold ixR
  rw [e]
theorem ixR_found {l : List Rep} {id : Int} {k : Nat} (hk : k < l.length) (h : l[k].id = id) (hn : ∀ j, (hj : j < k) → (l[j]'(by omega)).id ≠ id) : ixR l id = k := by
  have e : (l.findIdx? fun r => decide (r.id = id)) = some k := by
    rw [List.findIdx?_eq_some_iff_getElem]
    refine ⟨hk, by simpa using h, fun j hj => by simpa using hn j hj⟩
  unfold ixR
  rw [e]
theorem ixR_cases (l : List Rep) (id : Int) : (ixR l id = -1 ∧ atR l id = none) ∨ ∃ k, ∃ h : k < l.length, ixR l id = k ∧ atR l id = some l[k] := by
  cases hf : l.findIdx? fun r => decide (r.id = id) with
  | none =>
    rw [List.findIdx?_eq_none_iff] at hf
    have h1 : ∀ r ∈ l, r.id ≠ id := fun r hr => by simpa using hf r hr
    exact .inl ⟨ixR_none h1, atR_none.2 h1⟩
  | some k =>
    rw [List.findIdx?_eq_some_iff_getElem] at hf
    obtain ⟨hk, h1, h2⟩ := hf
    have h1' : l[k].id = id := by simpa using h1
    have h2' : ∀ j, (hj : j < k) → (l[j]'(by omega)).id ≠ id := fun j hj => by simpa using h2 j hj
    refine .inr ⟨k, hk, ixR_found hk h1' h2', ?_⟩
    unfold atR
    rw [List.find?_eq_some_iff_getElem]
    exact ⟨by simpa using h1', k, hk, rfl, fun j hj => by simpa using h2 j hj⟩

set_option maxRecDepth 100000 in
set_option maxHeartbeats 1000000 in
theorem at3_any (l : List Rep) (A : Option Addr) (c : Nat) (id : Int) (w : World) (h : Reps w w.heap.size A l) (hl : l.length ≤ maxLen) :
    Calls Tryd.prog 18 #[.slice A l.length c, .int .i64 id] w fun e w' => e = .returned (.int .i64 (ixR l id)) ∧ w = w' := by
  unfold maxLen at hl
  go_enter Tryd.func18, Tryd.ntmps18
  go_wp2_with fail
  go_loopw [5] (fun ii wr => ∃ i : Nat, i ≤ l.length ∧ ii = .int .i64 i ∧ Hid (∀ j, (hj : j < i) → (hl : j < l.length) → l[j].id ≠ id) ∧ w = wr) (fun ii _ => l.length - (vInt ii).toNat)
  case atStart => exact ⟨0, Nat.zero_le _, rfl, Lib.hid fun j hj => by omega, rfl⟩
  case round =>
    obtain ⟨i, hi, rfl, hR, rfl⟩ := hrel
    by_cases hlt : i < l.length
    · have hil : (i : Int) < (l.length : Int) := by omega
      obtain ⟨b, off, rfl, hb, C⟩ := h.eight hlt
      have c0 := C.c0
      by_cases he : l[i].id = id
      · have e1 : (l[i].id == id) = true := by simp [he]
        have hv : Hid (ixR l id = (i : Int)) := Lib.hid (ixR_found hlt he (fun j hj => hR.out j hj (by omega)))
        clear he C
        go_wp2_with fail
        go_ret
        exact ⟨by rw [hv.out]; rfl, rfl⟩
      · have e1 : (l[i].id == id) = false := by simpa using he
        have HR : Hid (∀ j, (hj : j < i + 1) → (hl : j < l.length) → l[j].id ≠ id) := Lib.hid (fun j hj hl => by
          by_cases hji : j = i
          · subst hji; exact he
          · exact hR.out j (by omega) hl)
        clear he C
        go_wp2_with fail
        go_roundw
        case rel => exact ⟨i + 1, by omega, by go_num, HR, by first | rfl | trivial⟩
        case measure => simp [vInt]; omega
    · have hil : ¬ (i : Int) < (l.length : Int) := by omega
      have hv : Hid (ixR l id = -1) := Lib.hid (ixR_none (fun r hr => by
        obtain ⟨j, hj, rfl⟩ := List.getElem_of_mem hr
        exact hR.out j (by omega) hj))
      go_wp2_with fail
      go_ret
      exact ⟨by rw [hv.out]; rfl, rfl⟩

end Go.Proofs.YtliijiflbfgfaaaDoor
