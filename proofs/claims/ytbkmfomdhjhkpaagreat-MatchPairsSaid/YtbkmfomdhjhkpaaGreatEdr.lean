/- Edits of two words by the reference's table of rows. -/
import Derived.Test.YtbkmfomdhjhkpaaGreatEd
namespace Go.Proofs.YtbkmfomdhjhkpaaGreat
open Go.RowKit

/-- A made row of n numbers. -/
def RowN (w : World) (g n : Nat) (f : Nat → Int) : Prop := w.rowIs g 3 n (fun j => .int .i64 (f j))
theorem RowN.congr {w : World} {g n : Nat} {f f' : Nat → Int} (h : RowN w g n f) (e : ∀ j, j < n → f j = f' j) : RowN w g n f' := World.rowIs.congr h fun j hj => by rw [e j hj]
theorem RowN.cell {w : World} {g n : Nat} {f : Nat → Int} (h : RowN w g n f) {j : Nat} (hj : j < n) : w.cell? ⟨g, j, none⟩ = some (.int .i64 (f j)) := World.rowIs.cell h hj
theorem RowN.free {w : World} {g n : Nat} {f : Nat → Int} (h : RowN w g n f) (j : Nat) : w.frozen? ⟨g, j, none⟩ = false := World.rowIs.frozen h j
theorem RowN.set {w : World} {g n : Nat} {f : Nat → Int} (h : RowN w g n f) (i : Nat) (v : Int) : RowN (w.setCell ⟨g, i, none⟩ (.int .i64 v)) g n (fun j => if j = i then v else f j) := World.rowIs.congr (World.rowIs.set h i _) fun j _ => by dsimp only; split <;> rfl
theorem RowN.far {w : World} {g n : Nat} {f : Nat → Int} (h : RowN w g n f) {p : Addr} (hp : g ≠ p.block) (v : Value) : RowN (w.setCell p v) g n f := World.rowIs.setOther h hp v
theorem RowN.alloc {w : World} {g n : Nat} {f : Nat → Int} (h : RowN w g n f) (o : Obj) : RowN (w.alloc o) g n f := World.rowIs.alloc h o
theorem RowN.lt {w : World} {g n : Nat} {f : Nat → Int} (h : RowN w g n f) : g < w.heap.size := World.rowIs.lt h

/-- The table: its first i rows lie in the blocks behind it. -/
def Tab (w : World) (g n m i : Nat) : Prop := w.rowIs g 77 n (fun k => if k < i then .slice (some ⟨g + 1 + k, 0, none⟩) m m else .slice none 0 0)

theorem intInfo : (Tryz.prog.info? 3).map (fun i => (i.zero, i.size, i.bytes)) = some (some (.int .i64 0), 1, 8) := by kernel_rfl
theorem rowInfo : (Tryz.prog.info? 77).map (fun i => (i.zero, i.size, i.bytes)) = some (some (.slice none 0 0), 1, 24) := by kernel_rfl

theorem min3a (x y z : Int) : (if z + 1 < if y < x then y + 1 else x + 1 then z + 1 else if y < x then y + 1 else x + 1) = minOf (x + 1) [y + 1, z + 1] := by
  simp only [minOf, List.foldl_cons, List.foldl_nil]
  by_cases h : y < x
  · rw [if_pos h, if_pos (show y + 1 < x + 1 by omega)]
  · rw [if_neg h, if_neg (show ¬ y + 1 < x + 1 by omega)]
theorem min3b (x y z : Int) : (if z + 1 < if y + 1 < x then y + 1 else x then z + 1 else if y + 1 < x then y + 1 else x) = minOf x [y + 1, z + 1] := by
  simp only [minOf, List.foldl_cons, List.foldl_nil]

theorem keepT {W : World} {g N R i i' k k' : Nat} {u v y z : Value} (h1 : g ≠ N) (h2 : R ≠ N) (h3 : k' ≠ k) (n : Value) (h : W.cell? ⟨g, i, none⟩ = some u ∧ W.cell? ⟨g, i', none⟩ = some v ∧ W.cell? ⟨R, k, none⟩ = some y ∧ W.cell? ⟨N, k', none⟩ = some z) :
    (W.setCell ⟨N, k, none⟩ n).cell? ⟨g, i, none⟩ = some u ∧ (W.setCell ⟨N, k, none⟩ n).cell? ⟨g, i', none⟩ = some v ∧ (W.setCell ⟨N, k, none⟩ n).cell? ⟨R, k, none⟩ = some y ∧ (W.setCell ⟨N, k, none⟩ n).cell? ⟨N, k', none⟩ = some z :=
  ⟨(World.cell?_setCell_other _ _ _ _ (fun e => h1 (congrArg Addr.block e).symm)).trans h.1, (World.cell?_setCell_other _ _ _ _ (fun e => h1 (congrArg Addr.block e).symm)).trans h.2.1,
   (World.cell?_setCell_other _ _ _ _ (fun e => h2 (congrArg Addr.block e).symm)).trans h.2.2.1, (World.cell?_setCell_other _ _ _ _ (fun e => h3 (congrArg Addr.off e).symm)).trans h.2.2.2⟩

/-- The row that is being filled: its first k numbers. -/
def part (a b : List UInt8) (i k j : Nat) : Int := if j < k then (D a b i j : Int) else 0
theorem part_step (a b : List UInt8) (i k : Nat) (v : Int) (hv : v = D a b i k) (j : Nat) : (if j = k then v else part a b i k j) = part a b i (k + 1) j := by
  unfold part
  by_cases h : j = k
  · subst h; rw [if_pos rfl, if_pos (Nat.lt_succ_self _), hv]
  · rw [if_neg h]
    by_cases h2 : j < k
    · rw [if_pos h2, if_pos (by omega)]
    · rw [if_neg h2, if_neg (by omega)]
theorem part_D (a b : List UInt8) (i k j : Nat) (h : j < k) : part a b i k j = (D a b i j : Int) := by unfold part; rw [if_pos h]

set_option maxRecDepth 100000 in
set_option maxHeartbeats 1000000 in
theorem refEdits_any (a b : ByteArray) (w : World) (ha : a.size ≤ 20) (hb : b.size ≤ 20) :
    Calls Tryz.prog 90 #[.string a, .string b] w fun e w' => e = .returned (.int .i64 (lev a.data.toList b.data.toList)) ∧ Below w.heap.size w w' := by
  have hmk1 := run_make_row' (P := Tryz.prog) 33 77 (.slice none 0 0) 24 Tryz.underlying33 rowInfo rfl .i64 .i64 (a.size + 1) (by omega) (by omega)
  have hmk2 := run_make_row' (P := Tryz.prog) 77 3 (.int .i64 0) 8 Tryz.underlying77 intInfo rfl .i64 .i64 (b.size + 1) (by omega) (by omega)
  have ea : ((a.size + 1 : Nat) : Int) = (a.size : Int) + 1 := by omega
  have eb : ((b.size + 1 : Nat) : Int) = (b.size : Int) + 1 := by omega
  rw [ea] at hmk1
  rw [eb] at hmk2
  clear ea eb
  go_enter Tryz.func90, Tryz.ntmps90
  go_wp2_with fail
  have htab0 : Tab (w.alloc (.cells (madeCells #[.slice none 0 0] (a.size + 1)) 77)) w.heap.size (a.size + 1) (b.size + 1) 0 := (World.rowIs_made w (.slice none 0 0) (a.size + 1) 77).congr fun k _ => by simp
  go_loopw [6] (fun ii wr => ∃ i : Nat, i ≤ a.size + 1 ∧ ii = .int .i64 i ∧ Hid (wr.heap.size = w.heap.size + 1 + i) ∧ Tab wr w.heap.size (a.size + 1) (b.size + 1) i ∧ Hid (∀ p, p < i → RowN wr (w.heap.size + 1 + p) (b.size + 1) (fun j => D a.data.toList b.data.toList p j)) ∧ Below w.heap.size w wr) (fun ii _ => a.size + 1 - (intOf ii).toNat)
  case atStart => exact ⟨0, Nat.zero_le _, rfl, Lib.hid (by simp), htab0, Lib.hid (fun p hp => absurd hp (Nat.not_lt_zero p)), (Below.refl _ _).alloc (Nat.le_refl _) _⟩
  case round =>
    clear htab0
    obtain ⟨i, hi, rfl, hsz, htab, hrows, hbel⟩ := hrel
    obtain ⟨w1, rfl⟩ : ∃ w1 : World, w1 = wr := ⟨_, rfl⟩
    by_cases hlt : i < a.size + 1
    · have hil : (i : Int) ≤ (a.size : Int) := by omega
      have hic := World.rowIs.cell htab hlt
      have hif := World.rowIs.frozen htab i
      have hgl := World.rowIs.lt htab
      have hiu : (i : Int) < (a.size : Int) + 1 := by omega
      simp only [Nat.lt_irrefl, if_false] at hic
      have htab1 : Tab ((w1.setCell ⟨w.heap.size, i, none⟩ (.slice (some ⟨w1.heap.size, 0, none⟩) (b.size + 1) (b.size + 1))).alloc (.cells (madeCells #[.int .i64 0] (b.size + 1)) 3)) w.heap.size (a.size + 1) (b.size + 1) (i + 1) :=
        ((World.rowIs.set htab i _).alloc _).congr fun k _ => by
          by_cases e : k = i
          · subst e; rw [if_pos rfl, if_pos (by omega), hsz.out]
          · rw [if_neg e]; by_cases e2 : k < i
            · rw [if_pos e2, if_pos (by omega)]
            · rw [if_neg e2, if_neg (by omega)]
      have hrows1 : Hid (∀ p, p < i → RowN ((w1.setCell ⟨w.heap.size, i, none⟩ (.slice (some ⟨w1.heap.size, 0, none⟩) (b.size + 1) (b.size + 1))).alloc (.cells (madeCells #[.int .i64 0] (b.size + 1)) 3)) (w.heap.size + 1 + p) (b.size + 1) (fun j => D a.data.toList b.data.toList p j)) :=
        Lib.hid fun p hp => ((hrows.out p hp).far (p := ⟨w.heap.size, i, none⟩) (by show w.heap.size + 1 + p ≠ w.heap.size; omega) _).alloc _
      have hnew1 : RowN ((w1.setCell ⟨w.heap.size, i, none⟩ (.slice (some ⟨w1.heap.size, 0, none⟩) (b.size + 1) (b.size + 1))).alloc (.cells (madeCells #[.int .i64 0] (b.size + 1)) 3)) w1.heap.size (b.size + 1) (part a.data.toList b.data.toList i 0) := by
        have := World.rowIs_made (w1.setCell ⟨w.heap.size, i, none⟩ (.slice (some ⟨w1.heap.size, 0, none⟩) (b.size + 1) (b.size + 1))) (.int .i64 0) (b.size + 1) 3
        rw [World.size_setCell] at this
        exact World.rowIs.congr this fun j _ => by simp [part]
      have hbel1 : Below w.heap.size w ((w1.setCell ⟨w.heap.size, i, none⟩ (.slice (some ⟨w1.heap.size, 0, none⟩) (b.size + 1) (b.size + 1))).alloc (.cells (madeCells #[.int .i64 0] (b.size + 1)) 3)) := (hbel.setCell (p := ⟨w.heap.size, i, none⟩) (Nat.le_refl _) _).alloc (by rw [World.size_setCell]; omega) _
      have hsz1 : Hid (((w1.setCell ⟨w.heap.size, i, none⟩ (.slice (some ⟨w1.heap.size, 0, none⟩) (b.size + 1) (b.size + 1))).alloc (.cells (madeCells #[.int .i64 0] (b.size + 1)) 3)).heap.size = w1.heap.size + 1) := Lib.hid (by simp)
      have hNg : w.heap.size ≠ w1.heap.size := by omega
      have hNp : Hid (∀ p, p < i → w.heap.size + 1 + p ≠ w1.heap.size) := Lib.hid fun p hp => by have := hsz.out; omega
      have hNe := Lib.hid hsz.out
      clear htab hrows hbel hsz
      go_wp2_with fail
      go_loopw [7] (fun kk wi => ∃ k : Nat, k ≤ b.size + 1 ∧ kk = .int .i64 k ∧ Hid (wi.heap.size = w1.heap.size + 1) ∧ Tab wi w.heap.size (a.size + 1) (b.size + 1) (i + 1) ∧ Hid (∀ p, p < i → RowN wi (w.heap.size + 1 + p) (b.size + 1) (fun j => D a.data.toList b.data.toList p j)) ∧ RowN wi w1.heap.size (b.size + 1) (part a.data.toList b.data.toList i k) ∧ Below w.heap.size w wi) (fun kk _ => b.size + 1 - (intOf kk).toNat)
      case atStart => exact ⟨0, Nat.zero_le _, rfl, hsz1, htab1, hrows1, hnew1, hbel1⟩
      case round =>
        clear htab1 hrows1 hnew1 hbel1 hsz1 hic hif
        obtain ⟨k, hk, rfl, hsz, htab, hrows, hnew, hbel⟩ := hrel
        by_cases hlt2 : k < b.size + 1
        · have hkl : (k : Int) ≤ (b.size : Int) := by omega
          have hku : (k : Int) < (b.size : Int) + 1 := by omega
          have hTi := World.rowIs.cell htab hlt
          rw [if_pos (Nat.lt_succ_self i), ← hNe.out] at hTi
          have hnk := hnew.cell hlt2
          have hnf := hnew.free k
          have hnl := hnew.lt
          have hgl2 := World.rowIs.lt htab
          by_cases hz : i = 0 ∨ k = 0
          · have hv : Hid ((i : Int) + (k : Int) = (D a.data.toList b.data.toList i k : Int)) := Lib.hid (by
              rcases hz with rfl | rfl
              · rw [D_zero]; simp
              · rw [D_left]; simp)
            by_cases hi0 : i = 0
            · have hb1 : ((i : Int) == 0) = true := by simp [hi0]
              clear hi0 hz
              go_wp2
              go_roundw
              case rel => exact ⟨k + 1, by omega, by go_num, Lib.hid (by rw [World.size_setCell, hsz.out]), World.rowIs.setOther htab hNg _, Lib.hid (fun p hp => (hrows.out p hp).far (hNp.out p hp) _), (hnew.set k _).congr (fun j _ => part_step a.data.toList b.data.toList i k _ hv.out j), hbel.setCell (by show w.heap.size ≤ w1.heap.size; omega) _⟩
              case measure => simp [intOf]; omega
            · have hb1 : ((i : Int) == 0) = false := by simp [hi0]
              have hk0 : k = 0 := by omega
              have hb2 : ((k : Int) == 0) = true := by simp [hk0]
              clear hi0 hk0 hz
              go_wp2
              go_roundw
              case rel => exact ⟨k + 1, by omega, by go_num, Lib.hid (by rw [World.size_setCell, hsz.out]), World.rowIs.setOther htab hNg _, Lib.hid (fun p hp => (hrows.out p hp).far (hNp.out p hp) _), (hnew.set k _).congr (fun j _ => part_step a.data.toList b.data.toList i k _ hv.out j), hbel.setCell (by show w.heap.size ≤ w1.heap.size; omega) _⟩
              case measure => simp [intOf]; omega
          · have hb1 : ((i : Int) == 0) = false := by simp; omega
            have hb2 : ((k : Int) == 0) = false := by simp; omega
            have hi1 : (1 : Int) ≤ (i : Int) := by omega
            have hk1 : (1 : Int) ≤ (k : Int) := by omega
            have hTp := World.rowIs.cell htab (i := i - 1) (by omega)
            rw [if_pos (by omega)] at hTp
            have hRp := hrows.out (i - 1) (by omega)
            have hRN := hNp.out (i - 1) (by omega)
            generalize w.heap.size + 1 + (i - 1) = R at hTp hRp hRN
            have hcx := hRp.cell (j := k - 1) (by omega)
            have hcy := hRp.cell (j := k) hlt2
            have hcz := hnew.cell (j := k - 1) (by omega)
            have hRl := hRp.lt
            rw [part_D _ _ _ _ _ (by omega)] at hcz
            have bx := D_int a.data.toList b.data.toList (i - 1) (k - 1) (by omega) (by omega)
            have by' := D_int a.data.toList b.data.toList (i - 1) k (by omega) (by omega)
            have bz := D_int a.data.toList b.data.toList i (k - 1) (by omega) (by omega)
            have HL : Hid (∀ r, r = (D a.data.toList b.data.toList (i - 1) (k - 1) : Int) + (sub a.data.toList b.data.toList (i - 1) (k - 1) : Int) → minOf r [(D a.data.toList b.data.toList (i - 1) k : Int) + 1, (D a.data.toList b.data.toList i (k - 1) : Int) + 1] = (D a.data.toList b.data.toList i k : Int)) := Lib.hid (by
              have := D_least a.data.toList b.data.toList (i - 1) (k - 1)
              rwa [show i - 1 + 1 = i by omega, show k - 1 + 1 = k by omega] at this)
            generalize (D a.data.toList b.data.toList (i - 1) (k - 1) : Int) = x at hcx bx HL
            generalize (D a.data.toList b.data.toList (i - 1) k : Int) = y at hcy by' HL
            generalize (D a.data.toList b.data.toList i (k - 1) : Int) = z at hcz bz HL
            have hia : (i : Int) - 1 < (a.size : Int) := by omega
            have hkb : (k : Int) - 1 < (b.size : Int) := by omega
            have hi0 : (0 : Int) ≤ (i : Int) - 1 := by omega
            have hk0 : (0 : Int) ≤ (k : Int) - 1 := by omega
            go_wp2
            have e1 : IntKind.i64.wrap ((i : Int) - 1) = (i : Int) - 1 := IntWalk.i64_in _ (by omega)
            have e2 : IntKind.i64.wrap ((k : Int) - 1) = (k : Int) - 1 := IntWalk.i64_in _ (by omega)
            have e3 : ((i : Int) - 1).toNat = i - 1 := by omega
            have e4 : ((k : Int) - 1).toNat = k - 1 := by omega
            have e5 : IntKind.i64.wrap (y + 1) = y + 1 := IntWalk.i64_in _ (by omega)
            have e6 : IntKind.i64.wrap (z + 1) = z + 1 := IntWalk.i64_in _ (by omega)
            go_quiet (fail)
            go_wp2
            all_goals
              have f1 : (i : Int) - 1 < (a.size : Int) + 1 := by omega
              have f2 : (k : Int) - 1 < (b.size : Int) + 1 := by omega
              have f3 : (0 : Int) ≤ (i : Int) := by omega
              have f4 : (0 : Int) ≤ (k : Int) := by omega
              go_region_held3 (fun w' => w'.cell? ⟨w.heap.size, i, none⟩ = some (.slice (some ⟨w1.heap.size, 0, none⟩) (b.size + 1) (b.size + 1)) ∧ w'.cell? ⟨w.heap.size, i - 1, none⟩ = some (.slice (some ⟨R, 0, none⟩) (b.size + 1) (b.size + 1)) ∧ w'.cell? ⟨R, k, none⟩ = some (.int .i64 y) ∧ w'.cell? ⟨w1.heap.size, k - 1, none⟩ = some (.int .i64 z)) (first | (simp [*]; done) | (refine keepT hNg hRN (by omega) _ ?_; simp [*]; done)) (first | fail)
            · have ht : ((a[i - 1].toNat : Int) != (b[k - 1].toNat : Int)) = true := by assumption
              have hv := HL.out (x + 1) (by rw [sub_other a b (i - 1) (k - 1) (by omega) (by omega) (by simpa using ht)])
              go_wp2
              go_roundw
              case rel =>
                refine ⟨k + 1, by omega, by go_num, Lib.hid ?_, ?_, Lib.hid (fun p hp => (World.rowIs.setOther (hrows.out p hp) (hNp.out p hp) _)), ?_, ?_⟩
                · rw [World.size_setCell]; exact hsz.out
                · exact World.rowIs.setOther htab hNg _
                · exact (hnew.set k _).congr (fun j _ => part_step a.data.toList b.data.toList i k _ ((min3a x y z).trans hv) j)
                · exact (below_drewN hbel _).setCell (by show w.heap.size ≤ w1.heap.size; omega) _
              case measure => simp [intOf]; omega
            · have ht : ((a[i - 1].toNat : Int) != (b[k - 1].toNat : Int)) = false := by assumption
              have hv := HL.out x (by rw [sub_same a b (i - 1) (k - 1) (by omega) (by omega) (by simpa using ht)]; omega)
              go_wp2
              go_roundw
              case rel =>
                refine ⟨k + 1, by omega, by go_num, Lib.hid ?_, ?_, Lib.hid (fun p hp => (World.rowIs.setOther (hrows.out p hp) (hNp.out p hp) _)), ?_, ?_⟩
                · rw [World.size_setCell]; exact hsz.out
                · exact World.rowIs.setOther htab hNg _
                · exact (hnew.set k _).congr (fun j _ => part_step a.data.toList b.data.toList i k _ ((min3b x y z).trans hv) j)
                · exact (below_drewN hbel _).setCell (by show w.heap.size ≤ w1.heap.size; omega) _
              case measure => simp [intOf]; omega
        · have hd2 : decide ((k : Int) ≤ (b.size : Int)) = false := by simp; omega
          obtain rfl : k = b.size + 1 := by omega
          go_wp2
          go_roundw
          case rel =>
            refine ⟨i + 1, by omega, by go_num, Lib.hid (by rw [hsz.out, hNe.out]; omega), htab, Lib.hid (fun p hp => ?_), hbel⟩
            by_cases e : p < i
            · exact hrows.out p e
            · obtain rfl : p = i := by omega
              rw [← hNe.out]
              exact hnew.congr (fun j hj => part_D _ _ _ _ _ hj)
          case measure => simp [intOf]; omega
    · have hd : decide ((i : Int) ≤ (a.size : Int)) = false := by simp; omega
      obtain rfl : i = a.size + 1 := by omega
      have hTi := World.rowIs.cell htab (i := a.size) (by omega)
      rw [if_pos (Nat.lt_succ_self _)] at hTi
      have hR := (hrows.out a.size (Nat.lt_succ_self _)).cell (j := b.size) (Nat.lt_succ_self _)
      have h1 : (a.size : Int) < (a.size : Int) + 1 := by omega
      have h2 : (b.size : Int) < (b.size : Int) + 1 := by omega
      go_wp2
      go_ret
      exact ⟨ret_int (by unfold lev; rw [len_size, len_size]), hbel⟩

end Go.Proofs.YtbkmfomdhjhkpaaGreat
