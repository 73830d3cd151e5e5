/- The numbers by which a statement draws: a slice of them in memory, and the one with an index, which goes round. -/
import Derived.Test.YtofckokjeiaphaaGreatOpen
namespace Go.Proofs.YtofckokjeiaphaaGreat
open Go.RowKit Go.ChangeShapes Go.WideShapes Go.ChangeAt Go.Deep

/-- A slice at A holds the numbers l, one cell each, below block B. -/
def U32s (w : World) (B : Nat) (A : Option Addr) (l : List Int) : Prop :=
  ∀ k, (h : k < l.length) → ∃ b off, A = some ⟨b, off, none⟩ ∧ b < B ∧ w.cell? ⟨b, off + k, none⟩ = some (.int .u32 l[k]) ∧ 0 ≤ l[k] ∧ l[k] < 4294967296
theorem U32s.below {w w' : World} {B : Nat} {A : Option Addr} {l : List Int} (h : U32s w B A l) (hb : Below B w w') : U32s w' B A l := fun k hk => by
  obtain ⟨b, off, e, h1, h2, h3⟩ := h k hk
  exact ⟨b, off, e, h1, (hb.cell (p := ⟨b, off + k, none⟩) h1).trans h2, h3⟩
theorem U32s.more {w : World} {B B' : Nat} {A : Option Addr} {l : List Int} (h : U32s w B A l) (hB : B ≤ B') : U32s w B' A l := fun k hk => by
  obtain ⟨b, off, e, h1, h2⟩ := h k hk
  exact ⟨b, off, e, by omega, h2⟩
theorem U32s.later {w0 W : World} {A : Option Addr} {l : List Int} (h : U32s w0 w0.heap.size A l) (hb : Below w0.heap.size w0 W) : U32s W W.heap.size A l := (h.below hb).more hb.size

/-- The number with an index, which goes round. -/
def atL (l : List Int) (i : Int) : Int := if l.length = 0 then 0 else l.getD (i % (l.length : Int)).toNat 0
theorem atL_bd {w : World} {B : Nat} {A : Option Addr} {l : List Int} (h : U32s w B A l) (i : Int) : 0 ≤ atL l i ∧ atL l i < 4294967296 := by
  unfold atL
  split
  · omega
  · rename_i h0
    have h1 := Int.emod_nonneg i (b := (l.length : Int)) (by omega)
    have h2 := Int.emod_lt_of_pos i (b := (l.length : Int)) (by omega)
    obtain ⟨_, _, _, _, _, h3, h4⟩ := h (i % (l.length : Int)).toNat (by omega)
    rw [List.getD_eq_getElem?_getD, List.getElem?_eq_getElem (by omega)]
    exact ⟨h3, h4⟩

set_option maxHeartbeats 400000 in
theorem at_any (l : List Int) (A : Option Addr) (c : Nat) (i : Int) (w : World) (h : U32s w w.heap.size A l) (hl : l.length ≤ maxLen) (h0 : 0 ≤ i) (h1 : i ≤ 1000000) :
    Calls Tryz.prog 26 #[.slice A l.length c, .int .i64 i] w fun e w' => e = .returned (.int .u32 (atL l i)) ∧ w = w' := by
  unfold maxLen at hl
  by_cases hz : l.length = 0
  · have hz2 : ((l.length : Int) == 0) = true := beq_iff_eq.2 (by omega)
    have HA : Hid (atL l i = 0) := Lib.hid (by simp [atL, hz])
    clear hz
    go_enter Tryz.func26, Tryz.ntmps26
    go_wp2
    go_ret
    exact ⟨ret_int HA.out.symm, rfl⟩
  · have hz2 : ((l.length : Int) == 0) = false := beq_eq_false_iff_ne.2 (by omega)
    have g1 := Int.emod_nonneg i (b := (l.length : Int)) (by omega)
    have g2 := Int.emod_lt_of_pos i (b := (l.length : Int)) (by omega)
    obtain ⟨b, off, rfl, _, hc, _⟩ := h (i % (l.length : Int)).toNat (by omega)
    have HA : Hid (atL l i = l[(i % (l.length : Int)).toNat]'(by omega)) := Lib.hid (by
      unfold atL; rw [if_neg hz, List.getD_eq_getElem?_getD, List.getElem?_eq_getElem (by omega)]; rfl)
    have hp : 0 < l.length := by omega
    go_enter Tryz.func26, Tryz.ntmps26
    go_wp2
    go_ret
    exact ⟨ret_int HA.out.symm, rfl⟩

section
variable {H : Type} {enc : TypeId × Value → H} {w : World} {base : Nat} {spare : Nat → Bool} {held : Bool}
set_option maxRecDepth 100000 in
theorem u32s_of_trod {fuel : Nat} {v : Value} {x : DataW H × List MemPlace} (h : DataW.trod enc Tryz.prog w base spare held fuel 48 [v] = some x) :
    ∃ A c l, v = .slice A (List.length l) c ∧ U32s w w.heap.size A l ∧ l.length ≤ maxLen := by
  rcases open_ints Tryz.underlying48 Tryz.underlying64 (by kernel_rfl) h with ⟨hc, _⟩ | ⟨a, len, cap, zs, hc, _, hl, hm, hmm, _, hcell, hwf⟩
  · simp only [List.cons.injEq, and_true] at hc
    exact ⟨none, 0, [], by simpa using hc, fun k hk => by simp at hk, by simp [maxLen]⟩
  · simp only [List.cons.injEq, and_true] at hc
    have hlm : len ≤ zs.length := by rw [hmm]; split <;> omega
    refine ⟨some a, cap, zs.take len, by rw [hc]; simp; omega, fun k hk => ?_, by simp; omega⟩
    simp only [List.length_take] at hk
    have h0 := hcell k (by omega)
    have h00 := hcell 0 (by omega)
    rw [Addr.add_zero'] at h00
    have hp := plain_of_cell h00
    have hlt := block_lt_of_cell h00
    have hg : zs.getD k 0 = (zs.take len)[k]'(by simp; omega) := by
      rw [List.getD_eq_getElem?_getD, List.getElem?_eq_getElem (by omega)]; simp
    have hw := hwf (zs.getD k 0) (by rw [hg]; exact List.mem_of_mem_take (List.getElem_mem _))
    rw [hg] at hw h0
    have hmin : IntKind.u32.min = 0 := rfl
    have hmax : IntKind.u32.max = 4294967295 := rfl
    simp only [Lit.wf, Bool.and_eq_true, decide_eq_true_eq] at hw
    rw [hp, add_plain] at h0
    exact ⟨a.block, a.off, by rw [← hp], hlt, by simpa using h0, by omega, by omega⟩
end

end Go.Proofs.YtofckokjeiaphaaGreat
