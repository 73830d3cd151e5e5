/- Edits of two words, row by row: the program's. -/
import Derived.Test.YtbkmfomdhjhkpaaGreatRow
namespace Go.Proofs.YtbkmfomdhjhkpaaGreat
open Go.RowKit

def minOf (first : Int) (l : List Int) : Int := l.foldl (fun m n => if n < m then n else m) first
theorem minOf_snoc (first : Int) (l : List Int) (n : Int) : minOf first (l ++ [n]) = if n < minOf first l then n else minOf first l := by
  rw [minOf, List.foldl_append]; rfl

set_option maxHeartbeats 400000 in
theorem least_any (first : Int) (l : List Int) (A : Option Addr) (c : Nat) (w : World) (hn : l.length ≤ maxLen)
    (h : ∀ k, (hk : k < l.length) → ∃ b off, A = some ⟨b, off, none⟩ ∧ w.cell? ⟨b, off + k, none⟩ = some (.int .i64 l[k])) :
    Calls Tryz.prog 73 #[.int .i64 first, .slice A l.length c] w fun e w' => e = .returned (.int .i64 (minOf first l)) ∧ w = w' := by
  unfold maxLen at hn
  go_enter Tryz.func73, Tryz.ntmps73
  go_wp2
  go_loop [0, 9] (fun m i => ∃ k : Nat, k ≤ l.length ∧ i = .int .i64 k ∧ m = .int .i64 (minOf first (l.take k))) (fun _ i => l.length - (intOf i).toNat)
  case atStart => exact ⟨0, Nat.zero_le _, rfl, rfl⟩
  case round =>
    obtain ⟨k, hk, rfl, rfl⟩ := hrel
    by_cases hlt : k < l.length
    · obtain ⟨b, off, rfl, hc⟩ := h k hlt
      have HS : Hid (minOf first (l.take (k + 1)) = if l[k] < minOf first (l.take k) then l[k] else minOf first (l.take k)) := Lib.hid (by rw [List.take_succ_eq_append_getElem hlt, minOf_snoc])
      generalize minOf first (l.take k) = m at HS
      generalize l[k] = n at hc HS
      go_wp2
      · have hlt' : n < m := by assumption
        go_round
        case rel => exact ⟨k + 1, by omega, by go_num, by rw [HS.out, if_pos hlt']⟩
        case measure => simp [intOf]; omega
      · have hge' : m ≤ n := by assumption
        have hge : ¬ n < m := by omega
        go_round
        case rel => exact ⟨k + 1, by omega, by go_num, by rw [HS.out, if_neg hge]⟩
        case measure => simp [intOf]; omega
    · have e : l.take k = l := List.take_of_length_le (by omega)
      rw [e]
      go_wp2
      go_ret
      exact ⟨rfl, rfl⟩

theorem least_two (first m n : Int) (b : Nat) (w : World) (h0 : w.cell? ⟨b, 0, none⟩ = some (.int .i64 m)) (h1 : w.cell? ⟨b, 1, none⟩ = some (.int .i64 n)) :
    Calls Tryz.prog 73 #[.int .i64 first, .slice (some ⟨b, 0, none⟩) 2 2] w fun e w' => e = .returned (.int .i64 (minOf first [m, n])) ∧ w = w' :=
  least_any first [m, n] (some ⟨b, 0, none⟩) 2 w (by simp [maxLen]) fun k hk => ⟨b, 0, rfl, by
    match k, hk with
    | 0, _ => exact h0
    | 1, _ => exact h1⟩

/-- A row of 21 numbers. -/
def Row (w : World) (g : Nat) (f : Nat → Int) : Prop := w.rowIs g 121 21 (fun j => .int .i64 (f j))
theorem Row.congr {w : World} {g : Nat} {f f' : Nat → Int} (h : Row w g f) (e : ∀ j, j < 21 → f j = f' j) : Row w g f' := World.rowIs.congr h fun j hj => by rw [e j hj]
theorem Row.cell {w : World} {g : Nat} {f : Nat → Int} (h : Row w g f) {j : Nat} (hj : j < 21) : w.cell? ⟨g, j, none⟩ = some (.int .i64 (f j)) := World.rowIs.cell h hj
theorem Row.free {w : World} {g : Nat} {f : Nat → Int} (h : Row w g f) (j : Nat) : w.frozen? ⟨g, j, none⟩ = false := World.rowIs.frozen h j
theorem Row.set {w : World} {g : Nat} {f : Nat → Int} (h : Row w g f) (i : Nat) (v : Int) : Row (w.setCell ⟨g, i, none⟩ (.int .i64 v)) g (fun j => if j = i then v else f j) := World.rowIs.congr (World.rowIs.set h i _) fun j _ => by dsimp only; split <;> rfl
theorem Row.far {w : World} {g : Nat} {f : Nat → Int} (h : Row w g f) {p : Addr} (hp : g ≠ p.block) (v : Value) : Row (w.setCell p v) g f := World.rowIs.setOther h hp v
theorem Row.alloc {w : World} {g : Nat} {f : Nat → Int} (h : Row w g f) (o : Obj) : Row (w.alloc o) g f := World.rowIs.alloc h o
theorem Row.drewN {w : World} {g : Nat} {f : Nat → Int} (h : Row w g f) (n : Nat) : Row (w.drewN n) g f := h
theorem Row.lt {w : World} {g : Nat} {f : Nat → Int} (h : Row w g f) : g < w.heap.size := World.rowIs.lt h
theorem Row.zero (w : World) (v : Int) : Row (w.alloc (.cells #[.int .i64 v, .int .i64 0, .int .i64 0, .int .i64 0, .int .i64 0, .int .i64 0, .int .i64 0, .int .i64 0, .int .i64 0, .int .i64 0, .int .i64 0, .int .i64 0, .int .i64 0, .int .i64 0, .int .i64 0, .int .i64 0, .int .i64 0, .int .i64 0, .int .i64 0, .int .i64 0, .int .i64 0] 121)) w.heap.size (fun j => if j = 0 then v else 0) :=
  World.rowIs_alloc w _ _ _ (fun i hi => by
    simp at hi
    rcases (show i = 0 ∨ i = 1 ∨ i = 2 ∨ i = 3 ∨ i = 4 ∨ i = 5 ∨ i = 6 ∨ i = 7 ∨ i = 8 ∨ i = 9 ∨ i = 10 ∨ i = 11 ∨ i = 12 ∨ i = 13 ∨ i = 14 ∨ i = 15 ∨ i = 16 ∨ i = 17 ∨ i = 18 ∨ i = 19 ∨ i = 20 by omega) with h | h | h | h | h | h | h | h | h | h | h | h | h | h | h | h | h | h | h | h | h <;> subst h <;> rfl)

theorem Row.of_set {w : World} {g : Nat} {cs : Array Value} {f : Nat → Int} (hs : cs.size = 21) (hg : w.heap[g]? = some (.cells cs 121 (0, 0))) (h : ∀ i, i < 21 → cs[i]? = some (.int .i64 (f i))) : Row w g f := ⟨cs, hg, hs, h⟩
theorem Row.zeros (v : Int) (i : Nat) (hi : i < 21) : (#[.int .i64 v, .int .i64 0, .int .i64 0, .int .i64 0, .int .i64 0, .int .i64 0, .int .i64 0, .int .i64 0, .int .i64 0, .int .i64 0, .int .i64 0, .int .i64 0, .int .i64 0, .int .i64 0, .int .i64 0, .int .i64 0, .int .i64 0, .int .i64 0, .int .i64 0, .int .i64 0, .int .i64 0] : Array Value)[i]? = some (.int .i64 (if i = 0 then v else 0)) := by
  rcases (show i = 0 ∨ i = 1 ∨ i = 2 ∨ i = 3 ∨ i = 4 ∨ i = 5 ∨ i = 6 ∨ i = 7 ∨ i = 8 ∨ i = 9 ∨ i = 10 ∨ i = 11 ∨ i = 12 ∨ i = 13 ∨ i = 14 ∨ i = 15 ∨ i = 16 ∨ i = 17 ∨ i = 18 ∨ i = 19 ∨ i = 20 by omega) with h | h | h | h | h | h | h | h | h | h | h | h | h | h | h | h | h | h | h | h | h <;> subst h <;> rfl

/-- The table's row i, as far as column m. -/
def rowF (a b : List UInt8) (i m : Nat) (j : Nat) : Int := if j ≤ m then (D a b i j : Int) else 0

theorem rowF_start (a b : List UInt8) (m : Nat) (k : Nat) (hk : ¬ k < m + 1) (hk' : k ≤ m + 1) (j : Nat) : (if j < k then (j : Int) else 0) = rowF a b 0 m j := by
  obtain rfl : k = m + 1 := by omega
  unfold rowF; rw [D_zero]; congr 1; simp [Nat.lt_succ_iff]
theorem rowF_next (a b : List UInt8) (i : Nat) (j : Nat) : (if j = 0 then ((i : Int) + 1) else 0) = rowF a b (i + 1) 0 j := by
  unfold rowF
  by_cases h : j = 0
  · subst h; rw [D_left]; simp
  · rw [if_neg h, if_neg (by omega)]
theorem rowF_step (a b : List UInt8) (i m : Nat) (v : Int) (hv : v = D a b i (m + 1)) (j : Nat) : (if j = m + 1 then v else rowF a b i m j) = rowF a b i (m + 1) j := by
  unfold rowF
  by_cases h : j = m + 1
  · subst h; rw [if_pos rfl, if_pos (Nat.le_refl _), hv]
  · rw [if_neg h]
    by_cases h2 : j ≤ m
    · rw [if_pos h2, if_pos (by omega)]
    · rw [if_neg h2, if_neg (by omega)]

theorem rowF_D (a b : List UInt8) (i m j : Nat) (h : j ≤ m) : rowF a b i m j = (D a b i j : Int) := by unfold rowF; rw [if_pos h]
theorem D_int (a b : List UInt8) (i j : Nat) (hi : i ≤ 20) (hj : j ≤ 20) : 0 ≤ (D a b i j : Int) ∧ (D a b i j : Int) ≤ 20 := by
  have := (D_bounds a b i j).2.2
  omega
theorem D_least (a b : List UInt8) (i j : Nat) (r : Int) (hr : r = (D a b i j : Int) + (sub a b i j : Int)) : minOf r [(D a b i (j + 1) : Int) + 1, (D a b (i + 1) j : Int) + 1] = (D a b (i + 1) (j + 1) : Int) := by
  subst hr
  rw [D_succ]
  simp only [minOf, List.foldl_cons, List.foldl_nil]
  split <;> split <;> omega
theorem sub_same (a b : ByteArray) (i j : Nat) (hi : i < a.size) (hj : j < b.size) (h : (a[i].toNat : Int) = (b[j].toNat : Int)) : (sub a.data.toList b.data.toList i j : Int) = 0 := by
  have e : a[i] = b[j] := UInt8.toNat_inj.1 (by omega)
  have e1 : a.data.toList[i]? = some a[i] := List.getElem?_eq_getElem (l := a.data.toList) (i := i) (by simpa using hi)
  have e2 : b.data.toList[j]? = some b[j] := List.getElem?_eq_getElem (l := b.data.toList) (i := j) (by simpa using hj)
  unfold sub; rw [e1, e2, e, if_pos rfl]; rfl
theorem sub_other (a b : ByteArray) (i j : Nat) (hi : i < a.size) (hj : j < b.size) (h : ¬ (a[i].toNat : Int) = (b[j].toNat : Int)) : (sub a.data.toList b.data.toList i j : Int) = 1 := by
  have e : ¬ a[i] = b[j] := fun e => h (by rw [e])
  have e1 : a.data.toList[i]? = some a[i] := List.getElem?_eq_getElem (l := a.data.toList) (i := i) (by simpa using hi)
  have e2 : b.data.toList[j]? = some b[j] := List.getElem?_eq_getElem (l := b.data.toList) (i := j) (by simpa using hj)
  unfold sub; rw [e1, e2, if_neg (fun e' => e (Option.some.inj e'))]; rfl

theorem keepS {W : World} {g N j : Nat} {y z : Value} (hne : g ≠ N) (v : Value) (h : W.cell? ⟨g, j + 1, none⟩ = some y ∧ W.cell? ⟨N, j, none⟩ = some z) :
    (W.setCell ⟨N, j + 1, none⟩ v).cell? ⟨g, j + 1, none⟩ = some y ∧ (W.setCell ⟨N, j + 1, none⟩ v).cell? ⟨N, j, none⟩ = some z :=
  ⟨(World.cell?_setCell_other _ _ _ _ (fun e => hne (congrArg Addr.block e).symm)).trans h.1, (World.cell?_setCell_other _ _ _ _ (by simp)).trans h.2⟩

theorem rowF_end (a b : ByteArray) : rowF a.data.toList b.data.toList a.size b.size b.size = (lev a.data.toList b.data.toList : Int) := by
  unfold rowF lev
  rw [if_pos (Nat.le_refl _), len_size, len_size]

set_option maxRecDepth 100000 in
set_option maxHeartbeats 1000000 in
theorem edits_any (a b : ByteArray) (w : World) (ha : a.size ≤ 20) (hb : b.size ≤ 20) :
    Calls Tryz.prog 53 #[.string a, .string b] w fun e w' => e = .returned (.int .i64 (lev a.data.toList b.data.toList)) ∧ Below w.heap.size w w' := by
  go_enter Tryz.func53, Tryz.ntmps53
  go_wp2_with fail
  go_loopw [14] (fun i wr => ∃ k : Nat, k ≤ b.size + 1 ∧ i = .int .i64 k ∧ Row wr w.heap.size (fun j => if j < k then (j : Int) else 0) ∧ Below w.heap.size w wr) (fun i _ => b.size + 1 - (intOf i).toNat)
  case atStart => exact ⟨0, Nat.zero_le _, rfl, (Row.zero w 0).congr (fun j _ => by simp), (Below.refl _ _).alloc (Nat.le_refl _) _⟩
  case round =>
    obtain ⟨k, hk, rfl, hrow, hbel⟩ := hrel
    by_cases hlt : k < b.size + 1
    · have hc := hrow.cell (j := k) (by omega)
      have hf := hrow.free k
      have h21 : (k : Int) < 21 := by omega
      go_wp2
      go_roundw
      case rel => exact ⟨k + 1, by omega, by go_num, (hrow.set k k).congr (fun j _ => by
        by_cases e : j = k
        · subst e; simp
        · rw [if_neg e]; by_cases e2 : j < k
          · rw [if_pos e2, if_pos (by omega)]
          · rw [if_neg e2, if_neg (by omega)]), hbel.setCell (by exact Nat.le_refl _) _⟩
      case measure => simp [intOf]; omega
    · replace hrow := hrow.congr (fun j _ => rowF_start a.data.toList b.data.toList b.size k hlt hk j)
      have hd : decide ((k : Int) < (b.size : Int) + 1) = false := by simp; omega
      go_wp2
      obtain ⟨wo, rfl⟩ : ∃ wo : World, wo = wr := ⟨_, rfl⟩
      go_loopw [23] (fun i wr => ∃ i' : Nat, i' ≤ a.size ∧ i = .int .i64 i' ∧ Row wr w.heap.size (rowF a.data.toList b.data.toList i' b.size) ∧ Below w.heap.size w wr) (fun i _ => a.size - (intOf i).toNat)
      case atStart => exact ⟨0, Nat.zero_le _, rfl, hrow, hbel⟩
      case round =>
        clear hrow hbel
        obtain ⟨i, hi, rfl, hrow, hbel⟩ := hrel
        by_cases hlt2 : i < a.size
        · have hi20 : (i : Int) < 20 := by omega
          have hgl := hrow.lt
          have hgn : w.heap.size ≠ wr.heap.size := by omega
          obtain ⟨w1, rfl⟩ : ∃ w1 : World, w1 = wr := ⟨_, rfl⟩
          have hnw := heap_alloc_new w1 (.cells #[.int .i64 0, .int .i64 0, .int .i64 0, .int .i64 0, .int .i64 0, .int .i64 0, .int .i64 0, .int .i64 0, .int .i64 0, .int .i64 0, .int .i64 0, .int .i64 0, .int .i64 0, .int .i64 0, .int .i64 0, .int .i64 0, .int .i64 0, .int .i64 0, .int .i64 0, .int .i64 0, .int .i64 0] 121)
          have hbuild := build_row ((i : Int) + 1)
          have hrow2 : Row ((w1.alloc (.cells #[.int .i64 0, .int .i64 0, .int .i64 0, .int .i64 0, .int .i64 0, .int .i64 0, .int .i64 0, .int .i64 0, .int .i64 0, .int .i64 0, .int .i64 0, .int .i64 0, .int .i64 0, .int .i64 0, .int .i64 0, .int .i64 0, .int .i64 0, .int .i64 0, .int .i64 0, .int .i64 0, .int .i64 0] 121)).setRow w1.heap.size #[.int .i64 ((i : Int) + 1), .int .i64 0, .int .i64 0, .int .i64 0, .int .i64 0, .int .i64 0, .int .i64 0, .int .i64 0, .int .i64 0, .int .i64 0, .int .i64 0, .int .i64 0, .int .i64 0, .int .i64 0, .int .i64 0, .int .i64 0, .int .i64 0, .int .i64 0, .int .i64 0, .int .i64 0, .int .i64 0]) w.heap.size (rowF a.data.toList b.data.toList i b.size) :=
            World.rowIs.of_block (hrow.alloc _) (setRow_other _ _ _ _ (by omega))
          have hnew : Row ((w1.alloc (.cells #[.int .i64 0, .int .i64 0, .int .i64 0, .int .i64 0, .int .i64 0, .int .i64 0, .int .i64 0, .int .i64 0, .int .i64 0, .int .i64 0, .int .i64 0, .int .i64 0, .int .i64 0, .int .i64 0, .int .i64 0, .int .i64 0, .int .i64 0, .int .i64 0, .int .i64 0, .int .i64 0, .int .i64 0] 121)).setRow w1.heap.size #[.int .i64 ((i : Int) + 1), .int .i64 0, .int .i64 0, .int .i64 0, .int .i64 0, .int .i64 0, .int .i64 0, .int .i64 0, .int .i64 0, .int .i64 0, .int .i64 0, .int .i64 0, .int .i64 0, .int .i64 0, .int .i64 0, .int .i64 0, .int .i64 0, .int .i64 0, .int .i64 0, .int .i64 0, .int .i64 0]) w1.heap.size (rowF a.data.toList b.data.toList (i + 1) 0) :=
            (Row.of_set rfl (setRow_heap _ _ _ _ _ _ hnw) (Row.zeros ((i : Int) + 1))).congr (fun j _ => rowF_next a.data.toList b.data.toList i j)
          have hbel2 : Below w.heap.size w ((w1.alloc (.cells #[.int .i64 0, .int .i64 0, .int .i64 0, .int .i64 0, .int .i64 0, .int .i64 0, .int .i64 0, .int .i64 0, .int .i64 0, .int .i64 0, .int .i64 0, .int .i64 0, .int .i64 0, .int .i64 0, .int .i64 0, .int .i64 0, .int .i64 0, .int .i64 0, .int .i64 0, .int .i64 0, .int .i64 0] 121)).setRow w1.heap.size #[.int .i64 ((i : Int) + 1), .int .i64 0, .int .i64 0, .int .i64 0, .int .i64 0, .int .i64 0, .int .i64 0, .int .i64 0, .int .i64 0, .int .i64 0, .int .i64 0, .int .i64 0, .int .i64 0, .int .i64 0, .int .i64 0, .int .i64 0, .int .i64 0, .int .i64 0, .int .i64 0, .int .i64 0, .int .i64 0]) := below_setRow (hbel.alloc (by omega) _) (by omega) _
          go_wp2_with (refine wpList_store_row rfl 121 (.tmp 8) (.tmp 28) rfl w1.heap.size #[.int .i64 ((i : Int) + 1), .int .i64 0, .int .i64 0, .int .i64 0, .int .i64 0, .int .i64 0, .int .i64 0, .int .i64 0, .int .i64 0, .int .i64 0, .int .i64 0, .int .i64 0, .int .i64 0, .int .i64 0, .int .i64 0, .int .i64 0, .int .i64 0, .int .i64 0, .int .i64 0, .int .i64 0, .int .i64 0] rfl rfl 121 _ hnw (by kernel_rfl) rfl (by intro u hu; simp at hu; rcases hu with rfl | rfl <;> rfl) ?_)
          go_loopw [31] (fun jj wi => ∃ j : Nat, j ≤ b.size ∧ jj = .int .i64 j ∧ Row wi w.heap.size (rowF a.data.toList b.data.toList i b.size) ∧ Row wi w1.heap.size (rowF a.data.toList b.data.toList (i + 1) j) ∧ Below w.heap.size w wi) (fun jj _ => b.size - (intOf jj).toNat)
          case atStart => exact ⟨0, Nat.zero_le _, rfl, hrow2, hnew, hbel2⟩
          case round =>
            clear hrow2 hnew hbel2 hrow hbel
            obtain ⟨j, hj, rfl, hrow, hnew, hbel⟩ := hrel
            by_cases hlt3 : j < b.size
            · have hcx := hrow.cell (j := j) (by omega)
              have hcy := hrow.cell (j := j + 1) (by omega)
              have hcz := hnew.cell (j := j) (by omega)
              have hfz := hnew.free (j + 1)
              have hnz := hnew.cell (j := j + 1) (by omega)
              have hnl := hnew.lt
              rw [rowF_D _ _ _ _ _ (by omega)] at hcx hcy hcz
              have bx := D_int a.data.toList b.data.toList i j (by omega) (by omega)
              have by' := D_int a.data.toList b.data.toList i (j + 1) (by omega) (by omega)
              have bz := D_int a.data.toList b.data.toList (i + 1) j (by omega) (by omega)
              generalize rowF a.data.toList b.data.toList (i + 1) j (j + 1) = nz at hnz
              have HL := Lib.hid (D_least a.data.toList b.data.toList i j)
              generalize (D a.data.toList b.data.toList i j : Int) = x at hcx bx HL
              generalize (D a.data.toList b.data.toList i (j + 1) : Int) = y at hcy by' HL
              generalize (D a.data.toList b.data.toList (i + 1) j : Int) = z at hcz bz HL
              have hnz' : ∀ nq o, ((wr.drewN nq).alloc o).cell? ⟨w1.heap.size, j + 1, none⟩ = some (.int .i64 nz) := fun nq o => (World.cell?_alloc_lt _ _ _ (by exact hnl)).trans hnz
              have hfz' : ∀ nq c t, ((wr.drewN nq).alloc (.cells c t)).frozen? ⟨w1.heap.size, j + 1, none⟩ = false := fun nq c t => (RowKit.frozen?_alloc_cells _ _ _ _).trans hfz
              have hj20 : (j : Int) < 20 := by omega
              have hjb : (j : Int) < (b.size : Int) := by omega
              have hia : (i : Int) < (a.size : Int) := by omega
              go_wp2
              go_quiet (fail)
              go_wp2
              all_goals
                have e1 : IntKind.i64.wrap ((j : Int) + 1) = (j : Int) + 1 := IntWalk.i64_in _ (by omega)
                have e2 : IntKind.i64.wrap (y + 1) = y + 1 := IntWalk.i64_in _ (by omega)
                have e3 : IntKind.i64.wrap (z + 1) = z + 1 := IntWalk.i64_in _ (by omega)
                have e4 : ((j : Int) + 1).toNat = j + 1 := by omega
                have e5 : (0 : Int) ≤ (j : Int) + 1 := by omega
                have e6 : (j : Int) + 1 < 21 := by omega
                have e7 : (j : Int) < 21 := by omega
                have e8 : (0 : Int) ≤ (j : Int) := by omega
                go_region_held3 (fun w' => w'.cell? ⟨w.heap.size, j + 1, none⟩ = some (.int .i64 y) ∧ w'.cell? ⟨w1.heap.size, j, none⟩ = some (.int .i64 z)) (first | (simp [*, World.cell?_alloc_some]; done) | (refine keepS hgn _ ?_; simp [*]; done))
                  (first | (go_at_call 73; refine (least_two _ (y + 1) (z + 1) _ _ (by exact World.cell?_alloc_new _ _ _ 0) (by exact World.cell?_alloc_new _ _ _ 1)).mono ?_; rintro e w' ⟨rfl, rfl⟩))
              · have ht : ((a[i].toNat : Int) != (b[j].toNat : Int)) = true := by assumption
                have hv := HL.out (x + 1) (by rw [sub_other a b i j (by omega) (by omega) (by simpa using ht)])
                have hrow3 := fun o v => ((hrow.drewN (nq + 1)).alloc o).far (p := ⟨w1.heap.size, j + 1, none⟩) hgn v
                go_wp2
                go_roundw
                case rel => exact ⟨j + 1, by omega, by go_num, by exact hrow3 _ _, by exact ((((hnew.drewN _).alloc _).set (j + 1) _).congr (fun k _ => rowF_step a.data.toList b.data.toList (i + 1) j _ rfl k)), by exact ((below_drewN hbel _).alloc (by exact hbel.size) _).setCell (by show w.heap.size ≤ w1.heap.size; omega) _⟩
                case measure => simp [intOf]; omega
              · have ht : ((a[i].toNat : Int) != (b[j].toNat : Int)) = false := by assumption
                have hv := HL.out x (by rw [sub_same a b i j (by omega) (by omega) (by simpa using ht)]; omega)
                have hrow3 := fun o v => ((hrow.drewN (nq + 1)).alloc o).far (p := ⟨w1.heap.size, j + 1, none⟩) hgn v
                go_wp2
                go_roundw
                case rel => exact ⟨j + 1, by omega, by go_num, by exact hrow3 _ _, by exact ((((hnew.drewN _).alloc _).set (j + 1) _).congr (fun k _ => rowF_step a.data.toList b.data.toList (i + 1) j _ rfl k)), by exact ((below_drewN hbel _).alloc (by exact hbel.size) _).setCell (by show w.heap.size ≤ w1.heap.size; omega) _⟩
                case measure => simp [intOf]; omega
            · have hd3 : decide ((j : Int) < (b.size : Int)) = false := by simp; omega
              obtain rfl : j = b.size := by omega
              obtain ⟨cs, hcs, hcz, hcc⟩ := hnew
              obtain ⟨cur, hcur, hcuz, _⟩ := hrow
              have hfin := setRow_heap wr w.heap.size cur cs _ _ hcur
              have hone : ∀ v ∈ cs.toList, v.oneCell' = true := fun v hv => by
                obtain ⟨n, hn, rfl⟩ := List.getElem_of_mem hv
                have := hcc n (by simpa [hcz] using hn)
                have e : cs.toList[n] = cs[n]'(by simpa using hn) := rfl
                rw [Array.getElem?_eq_getElem (by simpa using hn)] at this
                rw [e, Option.some.inj this]; rfl
              go_wp2_with (first
                | (refine wpList_load_row rfl 121 (.tmp 8) rfl w1.heap.size rfl 121 cs _ _ hcs Tryz.underlying121 rfl (by rw [hcz]; kernel_rfl) ?_)
                | (refine wpList_store_row rfl 121 (.tmp 5) (.tmp 62) rfl w.heap.size cs rfl rfl 121 cur hcur (by rw [hcz]; kernel_rfl) (by rw [hcuz, hcz]) hone ?_))
              go_roundw
              case rel => exact ⟨i + 1, by omega, by go_num, Row.of_set hcz hfin hcc, below_setRow hbel (Nat.le_refl _) _⟩
              case measure => simp [intOf]; omega
        · have hd2 : decide ((i : Int) < (a.size : Int)) = false := by simp; omega
          obtain rfl : i = a.size := by omega
          have hc := hrow.cell (j := b.size) (by omega)
          have hb21 : (b.size : Int) < 21 := by omega
          go_wp2
          go_ret
          exact ⟨ret_int (rowF_end a b), hbel⟩

end Go.Proofs.YtbkmfomdhjhkpaaGreat
