/- slices.DeleteFunc at reports, where those go that are not of a kind. -/
import Derived.Test.YtliijiflbfgfaaaDoorAOrder
import Derived.Test.YtliijiflbfgfaaaDoorAIns
import Derived.Lib.SliceRun

namespace Go.Proofs.YtliijiflbfgfaaaDoor
open Go.RowKit Go.Maps

def kindK (k : Int) (r : Rep) : Bool := decide (r.kind = k)
def idxK (l : List Rep) (k : Int) : Int := match l.findIdx? fun r => !kindK k r with
  | some i => (i : Int)
  | none => -1
theorem idxK_none {l : List Rep} {k : Int} (h : ∀ r ∈ l, r.kind = k) : idxK l k = -1 := by
  have e : (l.findIdx? fun r => !kindK k r) = none := by
    rw [List.findIdx?_eq_none_iff]
    intro r hr
    simp [kindK, h r hr]
  unfold idxK
  rw [e]
theorem idxK_found {l : List Rep} {k : Int} {i : Nat} (hi : i < l.length) (h : l[i].kind ≠ k) (hn : ∀ j, (hj : j < i) → (l[j]'(by omega)).kind = k) : idxK l k = i := by
  have e : (l.findIdx? fun r => !kindK k r) = some i := by
    rw [List.findIdx?_eq_some_iff_getElem]
    refine ⟨hi, by simpa [kindK] using h, fun j hj => by simp [kindK, hn j hj]⟩
  unfold idxK
  rw [e]
theorem idxK_cases (l : List Rep) (k : Int) : (idxK l k = -1 ∧ ∀ r ∈ l, r.kind = k) ∨ ∃ i, ∃ h : i < l.length, idxK l k = i ∧ l[i].kind ≠ k ∧ ∀ j, (hj : j < i) → (l[j]'(by omega)).kind = k := by
  cases hf : l.findIdx? fun r => !kindK k r with
  | none =>
    rw [List.findIdx?_eq_none_iff] at hf
    have h1 : ∀ r ∈ l, r.kind = k := fun r hr => by simpa [kindK] using hf r hr
    exact .inl ⟨idxK_none h1, h1⟩
  | some i =>
    rw [List.findIdx?_eq_some_iff_getElem] at hf
    obtain ⟨hi, h1, h2⟩ := hf
    have h1' : l[i].kind ≠ k := by simpa [kindK] using h1
    have h2' : ∀ j, (hj : j < i) → (l[j]'(by omega)).kind = k := fun j hj => by simpa [kindK] using h2 j hj
    exact .inr ⟨i, hi, idxK_found hi h1' h2', h1', h2'⟩

set_option maxHeartbeats 400000 in
theorem kindPred_any (r : Rep) (k : Int) (kc : Nat) (W : World) (hk : W.cell? ⟨kc, 0, none⟩ = some (.int .u8 k)) (hkc : kc < W.heap.size) :
    Calls Tryd.prog 48 #[.agg #[.int .i64 r.id, .int .i64 r.src, .int .i64 r.acc, .int .i64 r.made, .int .i64 r.about, .int .u8 r.kind, .int .i64 r.cents, .int .i64 r.of_], .pointer (some ⟨kc, 0, none⟩)] W fun e w' => e = .returned (.bool (r.kind != k)) ∧ w' = W.alloc (.cells #[.int .i64 r.id, .int .i64 r.src, .int .i64 r.acc, .int .i64 r.made, .int .i64 r.about, .int .u8 r.kind, .int .i64 r.cents, .int .i64 r.of_] 47) := by
  have hk1 := ((Below.refl W.heap.size W).alloc (Nat.le_refl _) (.cells #[.int .i64 r.id, .int .i64 r.src, .int .i64 r.acc, .int .i64 r.made, .int .i64 r.about, .int .u8 r.kind, .int .i64 r.cents, .int .i64 r.of_] 47)).cell (p := ⟨kc, 0, none⟩) hkc |>.trans hk
  go_enter Tryd.func48, Tryd.ntmps48
  go_wp2
  go_ret
  exact ⟨rfl, rfl⟩

set_option maxRecDepth 100000 in
set_option maxHeartbeats 1000000 in
theorem indexFunc_any (l : List Rep) (A : Option Addr) (c : Nat) (k : Int) (kc : Nat) (w : World) (h : Reps w w.heap.size A l) (hk : w.cell? ⟨kc, 0, none⟩ = some (.int .u8 k)) (hkc : kc < w.heap.size) (hl : l.length ≤ 1000) :
    Calls Tryd.prog 52 #[.slice A l.length c, .func (.func 48) #[] #[.pointer (some ⟨kc, 0, none⟩)]] w fun e w' => e = .returned (.int .i64 (idxK l k)) ∧ Below w.heap.size w w' := by
  have HP := Lib.hid (fun r W h1 h2 => kindPred_any r k kc W h1 h2)
  go_enter Tryd.func52, Tryd.ntmps52
  go_wp2_with fail
  go_loopw [8] (fun ii wr => ∃ i : Nat, i ≤ l.length ∧ ii = .int .i64 i ∧ Hid ((∀ j, (hj : j < i) → (hl : j < l.length) → l[j].kind = k) ∧ Below w.heap.size w wr)) (fun ii _ => l.length - (vInt ii).toNat)
  case atStart => exact ⟨0, Nat.zero_le _, rfl, Lib.hid ⟨fun j hj => by omega, Below.refl _ _⟩⟩
  case round =>
    obtain ⟨i, hi, rfl, hR⟩ := hrel
    by_cases hlt : i < l.length
    · have hil : (i : Int) < (l.length : Int) := by omega
      obtain ⟨hall, hB⟩ := hR.out
      obtain ⟨b, off, rfl, hb, C⟩ := (h.later hB).eight hlt
      obtain ⟨c0, c1, c2, c3, c4, c5, c6, c7⟩ := C
      have HC := Lib.hid (HP.out l[i] wr ((hB.cell (p := ⟨kc, 0, none⟩) hkc).trans hk) (Nat.lt_of_lt_of_le hkc hB.size))
      by_cases he : l[i].kind = k
      · have HR : Hid (∀ j, (hj : j < i + 1) → (hl : j < l.length) → l[j].kind = k) := Lib.hid (fun j hj hl => by
          by_cases hji : j = i
          · subst hji; exact he
          · exact hall j (by omega) hl)
        have hbool : (l[i].kind != k) = false := by simp [he]
        have HCb := Lib.hid (hbool ▸ HC.out)
        clear he hall hR hbool HC
        generalize l[i] = r at *
        go_wp2_with (go_at_call 48; (with_reducible refine (HCb.out).mono ?_); rintro e w2 ⟨rfl, rfl⟩)
        go_roundw
        case rel => exact ⟨i + 1, by omega, by go_num, Lib.hid ⟨HR.out, hB.alloc hB.size _⟩⟩
        case measure => simp [vInt]; omega
      · have Hv : Hid (idxK l k = i) := Lib.hid (idxK_found hlt he (fun j hj => hall j hj (by omega)))
        have hbool : (l[i].kind != k) = true := by simpa using he
        have HCb := Lib.hid (hbool ▸ HC.out)
        clear he hall hR hbool HC
        generalize l[i] = r at *
        go_wp2_with (go_at_call 48; (with_reducible refine (HCb.out).mono ?_); rintro e w2 ⟨rfl, rfl⟩)
        go_ret
        exact ⟨by rw [Hv.out]; rfl, hB.alloc hB.size _⟩
    · have hil : ¬ (i : Int) < (l.length : Int) := by omega
      have Hv : Hid (idxK l k = -1) := Lib.hid (idxK_none (fun r hr => by
        obtain ⟨j, hj, rfl⟩ := List.getElem_of_mem hr
        exact hR.out.1 j (by omega) hj))
      have hfin := hR.out.2
      clear hR
      go_wp2_with fail
      go_ret
      exact ⟨by rw [Hv.out]; rfl, hfin⟩

end Go.Proofs.YtliijiflbfgfaaaDoor
