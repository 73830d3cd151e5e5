/- For every rules, person and numbers the law on one person's records returns true, and each argument reads afterwards as it read before. No condition. -/
import Derived.Test.YtofckokjeiaphaaGreatOpen
import Derived.Test.YtofckokjeiaphaaGreatLev
import Derived.Test.YtofckokjeiaphaaGreatSame
import Derived.IntWalk
import Derived.BigQuiet
import Derived.Test.YtofckokjeiaphaaGreatMore
import Derived.Laws.BytesArg
import Derived.Test.YtofckokjeiaphaaGreatTwinC
import Derived.Test.YtofckokjeiaphaaGreatAlive
import Derived.StillTailTactics
import Derived.Lib.SmallJoins
import Derived.Deep.CutBlock
import Derived.Deep.RegionLaw

namespace Go.Proofs.YtofckokjeiaphaaGreat
open Go.RowKit Go.ChangeShapes Go.WideShapes Go.ChangeAt Go.Deep

/-- A slice at A holds the numbers l, one cell each, below block B. -/
def U32s (w : World) (B : Nat) (A : Option Addr) (l : List Int) : Prop :=
  ∀ k, (h : k < l.length) → ∃ b off, A = some ⟨b, off, none⟩ ∧ b < B ∧ w.cell? ⟨b, off + k, none⟩ = some (.int .u32 l[k]) ∧ 0 ≤ l[k] ∧ l[k] < 4294967296
theorem U32s.below {w w' : World} {B : Nat} {A : Option Addr} {l : List Int} (h : U32s w B A l) (hb : Below B w w') : U32s w' B A l := fun k hk => by
  obtain ⟨b, off, e, h1, h2, h3⟩ := h k hk
  exact ⟨b, off, e, h1, (hb.cell (p := ⟨b, off + k, none⟩) h1).trans h2, h3⟩
theorem U32s.more {w : World} {B B' : Nat} {A : Option Addr} {l : List Int} (h : U32s w B A l) (hB : B ≤ B') : U32s w B' A l := fun k hk => by
  obtain ⟨b, off, e, h1, h2⟩ := h k hk
  exact ⟨b, off, e, by omega, h2⟩
theorem U32s.later {w0 W : World} {A : Option Addr} {l : List Int} (h : U32s w0 w0.heap.size A l) (hb : Below w0.heap.size w0 W) : U32s W W.heap.size A l := (h.below hb).more hb.size

/-- The number with an index, which goes round. -/
def atL (l : List Int) (i : Int) : Int := if l.length = 0 then 0 else l.getD (i % (l.length : Int)).toNat 0
theorem atL_bd {w : World} {B : Nat} {A : Option Addr} {l : List Int} (h : U32s w B A l) (i : Int) : 0 ≤ atL l i ∧ atL l i < 4294967296 := by
  unfold atL
  split
  · omega
  · rename_i h0
    have h1 := Int.emod_nonneg i (b := (l.length : Int)) (by omega)
    have h2 := Int.emod_lt_of_pos i (b := (l.length : Int)) (by omega)
    obtain ⟨_, _, _, _, _, h3, h4⟩ := h (i % (l.length : Int)).toNat (by omega)
    rw [List.getD_eq_getElem?_getD, List.getElem?_eq_getElem (by omega)]
    exact ⟨h3, h4⟩

set_option maxHeartbeats 400000 in
theorem at_any (l : List Int) (A : Option Addr) (c : Nat) (i : Int) (w : World) (h : U32s w w.heap.size A l) (hl : l.length ≤ maxLen) (h0 : 0 ≤ i) (h1 : i ≤ 1000000) :
    Calls Tryz.prog 26 #[.slice A l.length c, .int .i64 i] w fun e w' => e = .returned (.int .u32 (atL l i)) ∧ w = w' := by
  unfold maxLen at hl
  by_cases hz : l.length = 0
  · have hz2 : ((l.length : Int) == 0) = true := beq_iff_eq.2 (by omega)
    have HA : Hid (atL l i = 0) := Lib.hid (by simp [atL, hz])
    clear hz
    go_enter Tryz.func26, Tryz.ntmps26
    go_wp2
    go_ret
    exact ⟨ret_int HA.out.symm, rfl⟩
  · have hz2 : ((l.length : Int) == 0) = false := beq_eq_false_iff_ne.2 (by omega)
    have g1 := Int.emod_nonneg i (b := (l.length : Int)) (by omega)
    have g2 := Int.emod_lt_of_pos i (b := (l.length : Int)) (by omega)
    obtain ⟨b, off, rfl, _, hc, _⟩ := h (i % (l.length : Int)).toNat (by omega)
    have HA : Hid (atL l i = l[(i % (l.length : Int)).toNat]'(by omega)) := Lib.hid (by
      unfold atL; rw [if_neg hz, List.getD_eq_getElem?_getD, List.getElem?_eq_getElem (by omega)]; rfl)
    have hp : 0 < l.length := by omega
    go_enter Tryz.func26, Tryz.ntmps26
    go_wp2
    go_ret
    exact ⟨ret_int HA.out.symm, rfl⟩

section
variable {H : Type} {enc : TypeId × Value → H} {w : World} {base : Nat} {spare : Nat → Bool} {held : Bool}
set_option maxRecDepth 100000 in
theorem u32s_of_trod {fuel : Nat} {v : Value} {x : DataW H × List MemPlace} (h : DataW.trod enc Tryz.prog w base spare held fuel 48 [v] = some x) :
    ∃ A c l, v = .slice A (List.length l) c ∧ U32s w w.heap.size A l ∧ l.length ≤ maxLen := by
  rcases open_ints Tryz.underlying48 Tryz.underlying64 (by kernel_rfl) h with ⟨hc, _⟩ | ⟨a, len, cap, zs, hc, _, hl, hm, hmm, _, hcell, hwf⟩
  · simp only [List.cons.injEq, and_true] at hc
    exact ⟨none, 0, [], by simpa using hc, fun k hk => by simp at hk, by simp [maxLen]⟩
  · simp only [List.cons.injEq, and_true] at hc
    have hlm : len ≤ zs.length := by rw [hmm]; split <;> omega
    refine ⟨some a, cap, zs.take len, by rw [hc]; simp; omega, fun k hk => ?_, by simp; omega⟩
    simp only [List.length_take] at hk
    have h0 := hcell k (by omega)
    have h00 := hcell 0 (by omega)
    rw [Addr.add_zero'] at h00
    have hp := plain_of_cell h00
    have hlt := block_lt_of_cell h00
    have hg : zs.getD k 0 = (zs.take len)[k]'(by simp; omega) := by
      rw [List.getD_eq_getElem?_getD, List.getElem?_eq_getElem (by omega)]; simp
    have hw := hwf (zs.getD k 0) (by rw [hg]; exact List.mem_of_mem_take (List.getElem_mem _))
    rw [hg] at hw h0
    have hmin : IntKind.u32.min = 0 := rfl
    have hmax : IntKind.u32.max = 4294967295 := rfl
    simp only [Lit.wf, Bool.and_eq_true, decide_eq_true_eq] at hw
    rw [hp, add_plain] at h0
    exact ⟨a.block, a.off, by rw [← hp], hlt, by simpa using h0, by omega, by omega⟩
end

end Go.Proofs.YtofckokjeiaphaaGreat

namespace Go.Proofs.YtofckokjeiaphaaGreat
open Go.RowKit

section
theorem D_diag (a b : List UInt8) (i j : Nat) : ∀ m, (∀ k, k < m → a[i + k]? = b[j + k]?) → D a b (i + m) (j + m) ≤ D a b i j
  | 0, _ => Nat.le_refl _
  | m + 1, h => by
    have h1 := D_diag a b i j m fun k hk => h k (by omega)
    have h2 := D_succ a b (i + m) (j + m)
    have h3 : sub a b (i + m) (j + m) = 0 := by unfold sub; rw [if_pos (h m (by omega))]
    rw [Nat.add_assoc, Nat.add_assoc] at h2
    omega
theorem D_pre (u v w : List UInt8) : D (u ++ v) (u ++ w) u.length u.length = 0 := by
  have h := D_diag (u ++ v) (u ++ w) 0 0 u.length fun k hk => by
    rw [Nat.zero_add, List.getElem?_append_left hk, List.getElem?_append_left hk]
  rw [D_zero, Nat.zero_add] at h
  omega
theorem lev_ins (u v : List UInt8) (c : UInt8) : lev (u ++ v) (u ++ c :: v) ≤ 1 := by
  have h0 := D_pre u v (c :: v)
  have h1 := D_step_right (u ++ v) (u ++ c :: v) u.length u.length
  have h2 := D_diag (u ++ v) (u ++ c :: v) u.length (u.length + 1) v.length fun k hk => by
    rw [List.getElem?_append_right (by omega), List.getElem?_append_right (by omega), show u.length + 1 + k - u.length = k + 1 by omega, show u.length + k - u.length = k by omega, List.getElem?_cons_succ]
  unfold lev
  rw [show (u ++ v).length = u.length + v.length by simp, show (u ++ c :: v).length = u.length + 1 + v.length by simp; omega]
  omega
theorem lev_del (u v : List UInt8) (c : UInt8) : lev (u ++ c :: v) (u ++ v) ≤ 1 := by rw [lev_comm]; exact lev_ins u v c
theorem lev_rep (u v : List UInt8) (c d : UInt8) : lev (u ++ c :: v) (u ++ d :: v) ≤ 1 := by
  have h0 := D_pre u (c :: v) (d :: v)
  have h1 := D_succ (u ++ c :: v) (u ++ d :: v) u.length u.length
  have hs := sub_le (u ++ c :: v) (u ++ d :: v) u.length u.length
  have h2 := D_diag (u ++ c :: v) (u ++ d :: v) (u.length + 1) (u.length + 1) v.length fun k hk => by
    rw [List.getElem?_append_right (by omega), List.getElem?_append_right (by omega), show u.length + 1 + k - u.length = k + 1 by omega, List.getElem?_cons_succ, List.getElem?_cons_succ]
  unfold lev
  rw [show (u ++ c :: v).length = u.length + 1 + v.length by simp; omega, show (u ++ d :: v).length = u.length + 1 + v.length by simp; omega]
  omega
end

/-- The place in a word. -/
def pAt (K : Int) (s : ByteArray) : Int := K / 4 % ((s.size : Int) + 1)
theorem pAt_bd (K : Int) (s : ByteArray) : 0 ≤ pAt K s ∧ pAt K s ≤ s.size := by
  have h1 := Int.emod_nonneg (K / 4) (b := (s.size : Int) + 1) (by omega)
  have h2 := Int.emod_lt_of_pos (K / 4) (b := (s.size : Int) + 1) (by omega)
  unfold pAt
  omega
def wrStep (s : ByteArray) (K : Int) (c : ByteArray) : ByteArray :=
  if K % 4 = 0 ∧ s.size < 20 then (s.extract 0 (pAt K s).toNat ++ c) ++ s.extract (pAt K s).toNat s.size
  else if K % 4 = 1 ∧ 1 < s.size ∧ (pAt K s).toNat < s.size then s.extract 0 (pAt K s).toNat ++ s.extract ((pAt K s).toNat + 1) s.size
  else if K % 4 = 2 ∧ (pAt K s).toNat < s.size then (s.extract 0 (pAt K s).toNat ++ c) ++ s.extract ((pAt K s).toNat + 1) s.size
  else s
def letterF (x : Int) : ByteArray := Utf8.encode (65 + x % 26)
def wrF (s : ByteArray) (l : List Int) (i : Int) : Nat → ByteArray
  | 0 => s
  | k + 1 => wrStep (wrF s l i k) (atL l (i + 2 * k)) (letterF (atL l (i + 2 * k + 1)))

theorem enc_small : ∀ n : Fin 26, (Utf8.encode (65 + (n.val : Int))).data.toList = [UInt8.ofNat (65 + n.val)] := by decide +kernel
theorem letter_in : ∀ n : Fin 26, inB ((UInt8.ofNat (65 + n.val)).toNat : Int) 65 90 = true := by decide +kernel
theorem letterF_one (x : Int) : ∃ c : UInt8, (letterF x).data.toList = [c] ∧ (letterF x).size = 1 ∧ inB (c.toNat : Int) 65 90 = true := by
  have h1 := Int.emod_nonneg x (b := 26) (by omega)
  have h2 := Int.emod_lt_of_pos x (b := 26) (by omega)
  unfold letterF
  generalize x % 26 = y at h1 h2
  obtain ⟨n, rfl⟩ : ∃ n : Nat, y = n := ⟨y.toNat, by omega⟩
  have hn : n < 26 := by omega
  have e := enc_small ⟨n, hn⟩
  have e2 := letter_in ⟨n, hn⟩
  dsimp only at e e2
  have sz : ∀ t : ByteArray, t.size = t.data.toList.length := fun _ => rfl
  refine ⟨UInt8.ofNat (65 + n), e, ?_, e2⟩
  rw [sz, e]; rfl

theorem size_list (s : ByteArray) : s.data.toList.length = s.size := rfl
theorem ext_list (s : ByteArray) (a b : Nat) : (s.extract a b).data.toList = (s.data.toList.take b).drop a := by simp [List.drop_take]
theorem cat_list (s t : ByteArray) : (s ++ t).data.toList = s.data.toList ++ t.data.toList := by simp
theorem allB_app (u v : List UInt8) (lo hi : Int) : allB (u ++ v) lo hi = (allB u lo hi && allB v lo hi) := by simp [allB]
theorem allB_split {u : List UInt8} {lo hi : Int} (h : allB u lo hi = true) (p : Nat) : allB (u.take p) lo hi = true ∧ allB (u.drop p) lo hi = true := by
  rw [← List.take_append_drop p u, allB_app, Bool.and_eq_true] at h
  exact h

theorem wrStep_ok {s : ByteArray} (K x : Int) (hs : wordB s = true) : wordB (wrStep s K (letterF x)) = true ∧ lev s.data.toList (wrStep s K (letterF x)).data.toList ≤ 1 := by
  obtain ⟨c, hc, hc1, hc2⟩ := letterF_one x
  have hpl : (pAt K s).toNat ≤ s.size := by have := pAt_bd K s; omega
  unfold wrStep
  generalize (pAt K s).toNat = p at *
  simp only [wordB, Bool.and_eq_true, inB, decide_eq_true_eq] at hs
  obtain ⟨⟨hs1, hs2⟩, hs3⟩ := hs
  have hsl : s.data.toList.length = s.size := rfl
  obtain ⟨t1, t2⟩ := allB_split hs3 p
  have t3 := (allB_split hs3 (p + 1)).2
  have e0 := List.take_append_drop p s.data.toList
  have hcB : allB [c] 65 90 = true := by simpa [allB] using hc2
  have size_of : ∀ t : ByteArray, t.size = t.data.toList.length := fun _ => rfl
  split
  · rename_i h
    have el : ((s.extract 0 p ++ letterF x) ++ s.extract p s.size).data.toList = s.data.toList.take p ++ c :: s.data.toList.drop p := by
      rw [cat_list, cat_list, ext_list, ext_list, hc, ← hsl, List.take_length]; simp
    refine ⟨?_, ?_⟩
    · rw [wordB, size_of, el, allB_app, show c :: s.data.toList.drop p = [c] ++ s.data.toList.drop p from rfl, allB_app, t1, t2, hcB]
      simp [inB]; omega
    · rw [el]
      have := lev_ins (s.data.toList.take p) (s.data.toList.drop p) c
      rwa [e0] at this
  · split
    · rename_i h
      have el : (s.extract 0 p ++ s.extract (p + 1) s.size).data.toList = s.data.toList.take p ++ s.data.toList.drop (p + 1) := by
        rw [cat_list, ext_list, ext_list, ← hsl, List.take_length]; simp
      have e1 : s.data.toList.take p ++ (s.data.toList[p]'(by omega)) :: s.data.toList.drop (p + 1) = s.data.toList := by
        rw [← List.drop_eq_getElem_cons]; exact e0
      refine ⟨?_, ?_⟩
      · rw [wordB, size_of, el, allB_app, t1, t3]
        simp [inB]; omega
      · rw [el]
        have := lev_del (s.data.toList.take p) (s.data.toList.drop (p + 1)) (s.data.toList[p]'(by omega))
        rwa [e1] at this
    · split
      · rename_i h
        have el : ((s.extract 0 p ++ letterF x) ++ s.extract (p + 1) s.size).data.toList = s.data.toList.take p ++ c :: s.data.toList.drop (p + 1) := by
          rw [cat_list, cat_list, ext_list, ext_list, hc, ← hsl, List.take_length]; simp
        have e1 : s.data.toList.take p ++ (s.data.toList[p]'(by omega)) :: s.data.toList.drop (p + 1) = s.data.toList := by
          rw [← List.drop_eq_getElem_cons]; exact e0
        refine ⟨?_, ?_⟩
        · rw [wordB, size_of, el, allB_app, show c :: s.data.toList.drop (p + 1) = [c] ++ s.data.toList.drop (p + 1) from rfl, allB_app, t1, t3, hcB]
          simp [inB]; omega
        · rw [el]
          have := lev_rep (s.data.toList.take p) (s.data.toList.drop (p + 1)) (s.data.toList[p]'(by omega)) c
          rwa [e1] at this
      · refine ⟨by simp [wordB, inB, hs1, hs2, hs3], ?_⟩
        rw [(lev_zero _ _).2 rfl]; omega
theorem wrF_ok {s : ByteArray} (l : List Int) (i : Int) (hs : wordB s = true) : ∀ n, wordB (wrF s l i n) = true ∧ lev s.data.toList (wrF s l i n).data.toList ≤ n
  | 0 => ⟨hs, by rw [show wrF s l i 0 = s from rfl, (lev_zero _ _).2 rfl]; omega⟩
  | n + 1 => by
    obtain ⟨h1, h2⟩ := wrF_ok l i hs n
    obtain ⟨h3, h4⟩ := wrStep_ok (atL l (i + 2 * n)) (atL l (i + 2 * n + 1)) h1
    refine ⟨h3, ?_⟩
    have := lev_tri s.data.toList (wrF s l i n).data.toList (wrF s l i (n + 1)).data.toList
    have h5 : lev (wrF s l i n).data.toList (wrF s l i (n + 1)).data.toList ≤ 1 := h4
    omega


set_option maxRecDepth 100000 in
set_option maxHeartbeats 4000000 in
theorem wrong_any (s : ByteArray) (n : Int) (l : List Int) (A : Option Addr) (c : Nat) (i : Int) (w : World) (hs : wordB s = true) (hn : 0 ≤ n) (hn5 : n ≤ 5) (h : U32s w w.heap.size A l) (hl : l.length ≤ maxLen) (h0 : 0 ≤ i) (h1 : i ≤ 1000) :
    Calls Tryz.prog 49 #[.string s, .int .i64 n, .slice A l.length c, .int .i64 i] w fun e w' => e = .returned (.string (wrF s l i n.toNat)) ∧ ∃ m, w' = w.drewN m := by
  go_enter Tryz.func49, Tryz.ntmps49
  go_wp2
  go_loopw [0, 14] (fun v j wr => ∃ k : Nat, (k : Int) ≤ n ∧ j = .int .i64 k ∧ v = .string (wrF s l i k) ∧ ∃ m, wr = w.drewN m) (fun _ j _ => n.toNat - (intOf j).toNat)
  case atStart => exact ⟨0, hn, rfl, rfl, 0, rfl⟩
  case round =>
    obtain ⟨k, hk, rfl, rfl, m, rfl⟩ := hrel
    by_cases hlt : (k : Int) < n
    · have hU2 : U32s (w.drewN m) (w.drewN m).heap.size A l := h.later (below_drewN (Below.refl _ _) m)
      have HA1 := Lib.hid (at_any l A c (i + 2 * k) (w.drewN m) hU2 hl (by omega) (by omega))
      have HA2 := Lib.hid (at_any l A c (i + 2 * k + 1) (w.drewN m) hU2 hl (by omega) (by omega))
      have bd1 := atL_bd h (i + 2 * k)
      have bd2 := atL_bd h (i + 2 * k + 1)
      have ht := (wrF_ok l i hs k).1
      have HN : Hid (wrF s l i (k + 1) = wrStep (wrF s l i k) (atL l (i + 2 * k)) (letterF (atL l (i + 2 * k + 1)))) := Lib.hid rfl
      generalize hq : wrF s l i (k + 1) = t' at HN
      have HQ := Lib.hid hq
      clear hq
      generalize wrF s l i k = t at *
      generalize atL l (i + 2 * k) = K at *
      generalize atL l (i + 2 * k + 1) = x at *
      simp only [wordB, Bool.and_eq_true, inB, decide_eq_true_eq] at ht
      obtain ⟨⟨z1, z2⟩, _⟩ := ht
      obtain ⟨k0, k1⟩ := bd1
      have y0 := Int.emod_nonneg x (b := 26) (by omega)
      have y1 := Int.emod_lt_of_pos x (b := 26) (by omega)
      have HX := Lib.hid y1
      clear h hU2
      have step : ∀ t'', t'' = t' → ∃ m', (((w.drewN m).drewN 0) = w.drewN m') ∧ t'' = t' := fun t'' e => ⟨m, rfl, e⟩
      clear step
      have hP0 := Int.emod_nonneg (K / 4) (b := (t.size : Int) + 1) (by omega)
      have hP1 := Int.emod_lt_of_pos (K / 4) (b := (t.size : Int) + 1) (by omega)
      obtain ⟨p, hp, hpl⟩ : ∃ p : Nat, (K / 4 % ((t.size : Int) + 1)).toNat = p ∧ p ≤ t.size := ⟨_, rfl, by omega⟩
      have hpA : Hid ((pAt K t).toNat = p) := Lib.hid hp
      have hE1 : (Utf8.encode (65 + x % 26)).size = 1 := (letterF_one x).choose_spec.2.1
      rcases (by omega : K % 4 = 0 ∨ K % 4 = 1 ∨ K % 4 = 2 ∨ K % 4 = 3) with h4 | h4 | h4 | h4
      · by_cases hz : (t.size : Int) < 20
        · have HV : Hid (t' = (t.extract 0 p ++ Utf8.encode (65 + x % 26)) ++ t.extract p t.size) := Lib.hid (by
            rw [HN.out]; unfold wrStep; rw [if_pos ⟨h4, by omega⟩, hpA.out]; rfl)
          clear HN
          go_upto_region 7 with (first | (go_at_call 26; (with_reducible refine HA1.out.mono ?_); rintro e w' ⟨rfl, rfl⟩) | (go_at_call 26; (with_reducible refine HA2.out.mono ?_); rintro e w' ⟨rfl, rfl⟩))
          have e1 : (p : Int) = K / 4 % ((t.size : Int) + 1) := by omega
          generalize K / 4 % ((t.size : Int) + 1) = P at *
          subst e1
          have g1 : ¬ 9223372036854775807 < (t.extract 0 p).size + (Utf8.encode (65 + x % 26)).size := by rw [hE1, ByteArray.size_extract]; omega
          have g2 : ¬ 9223372036854775807 < (t.extract 0 p ++ Utf8.encode (65 + x % 26)).size + (t.extract p t.size).size := by rw [ByteArray.size_append, hE1, ByteArray.size_extract, ByteArray.size_extract]; omega
          have g3 := g1
          have g4 := g2
          rw [ByteArray.size_extract, Nat.sub_zero] at g3
          rw [ByteArray.size_append, ByteArray.size_extract, ByteArray.size_extract, Nat.sub_zero, Nat.min_self] at g4
          go_quiet (fail)
          clear g1 g2 g3 g4 hE1
          go_wp2
          go_roundw
          case rel => exact ⟨k + 1, by omega, by go_num, congrArg Value.string (HQ.out.trans HV.out).symm, _, rfl⟩
          case measure => simp [intOf]; omega
        · have HV : Hid (t' = t) := Lib.hid (by
            rw [HN.out]; unfold wrStep; rw [if_neg (by omega), if_neg (by omega), if_neg (by omega)])
          clear HN hE1
          go_wp2_with (first | (go_at_call 26; (with_reducible refine HA1.out.mono ?_); rintro e w' ⟨rfl, rfl⟩) | (go_at_call 26; (with_reducible refine HA2.out.mono ?_); rintro e w' ⟨rfl, rfl⟩))
          go_roundw
          case rel => exact ⟨k + 1, by omega, by go_num, congrArg Value.string (HQ.out.trans HV.out).symm, m, rfl⟩
          case measure => simp [intOf]; omega
      · by_cases hz : (1 : Int) < (t.size : Int)
        · by_cases hy : K / 4 % ((t.size : Int) + 1) < (t.size : Int)
          · have HV : Hid (t' = t.extract 0 p ++ t.extract (p + 1) t.size) := Lib.hid (by
              rw [HN.out]; unfold wrStep; rw [hpA.out, if_neg (by omega), if_pos ⟨h4, by omega, by omega⟩])
            clear HN
            go_upto_region 9 with (first | (go_at_call 26; (with_reducible refine HA1.out.mono ?_); rintro e w' ⟨rfl, rfl⟩) | (go_at_call 26; (with_reducible refine HA2.out.mono ?_); rintro e w' ⟨rfl, rfl⟩))
            have e1 : (p : Int) = K / 4 % ((t.size : Int) + 1) := by omega
            generalize K / 4 % ((t.size : Int) + 1) = P at *
            subst e1
            have g2 : ¬ 9223372036854775807 < (t.extract 0 p).size + (t.extract (p + 1) t.size).size := by rw [ByteArray.size_extract, ByteArray.size_extract]; omega
            have g4 := g2
            rw [ByteArray.size_extract, ByteArray.size_extract, Nat.sub_zero, Nat.min_self] at g4
            go_quiet (fail)
            clear g2 g4 hE1
            go_wp2
            go_roundw
            case rel => exact ⟨k + 1, by omega, by go_num, congrArg Value.string (HQ.out.trans HV.out).symm, _, rfl⟩
            case measure => simp [intOf]; omega
          · have HV : Hid (t' = t) := Lib.hid (by
              rw [HN.out]; unfold wrStep; rw [hpA.out, if_neg (by omega), if_neg (by omega), if_neg (by omega)])
            clear HN hE1
            go_wp2_with (first | (go_at_call 26; (with_reducible refine HA1.out.mono ?_); rintro e w' ⟨rfl, rfl⟩) | (go_at_call 26; (with_reducible refine HA2.out.mono ?_); rintro e w' ⟨rfl, rfl⟩))
            go_roundw
            case rel => exact ⟨k + 1, by omega, by go_num, congrArg Value.string (HQ.out.trans HV.out).symm, m, rfl⟩
            case measure => simp [intOf]; omega
        · have HV : Hid (t' = t) := Lib.hid (by
            rw [HN.out]; unfold wrStep; rw [if_neg (by omega), if_neg (by omega), if_neg (by omega)])
          clear HN hE1
          go_wp2_with (first | (go_at_call 26; (with_reducible refine HA1.out.mono ?_); rintro e w' ⟨rfl, rfl⟩) | (go_at_call 26; (with_reducible refine HA2.out.mono ?_); rintro e w' ⟨rfl, rfl⟩))
          go_roundw
          case rel => exact ⟨k + 1, by omega, by go_num, congrArg Value.string (HQ.out.trans HV.out).symm, m, rfl⟩
          case measure => simp [intOf]; omega
      · by_cases hy : K / 4 % ((t.size : Int) + 1) < (t.size : Int)
        · have HV : Hid (t' = (t.extract 0 p ++ Utf8.encode (65 + x % 26)) ++ t.extract (p + 1) t.size) := Lib.hid (by
            rw [HN.out]; unfold wrStep; rw [hpA.out, if_neg (by omega), if_neg (by omega), if_pos ⟨h4, by omega⟩]; rfl)
          clear HN
          go_upto_region 11 with (first | (go_at_call 26; (with_reducible refine HA1.out.mono ?_); rintro e w' ⟨rfl, rfl⟩) | (go_at_call 26; (with_reducible refine HA2.out.mono ?_); rintro e w' ⟨rfl, rfl⟩))
          have e1 : (p : Int) = K / 4 % ((t.size : Int) + 1) := by omega
          generalize K / 4 % ((t.size : Int) + 1) = P at *
          subst e1
          have g1 : ¬ 9223372036854775807 < (t.extract 0 p).size + (Utf8.encode (65 + x % 26)).size := by rw [hE1, ByteArray.size_extract]; omega
          have g2 : ¬ 9223372036854775807 < (t.extract 0 p ++ Utf8.encode (65 + x % 26)).size + (t.extract (p + 1) t.size).size := by rw [ByteArray.size_append, hE1, ByteArray.size_extract, ByteArray.size_extract]; omega
          have g3 := g1
          have g4 := g2
          rw [ByteArray.size_extract, Nat.sub_zero] at g3
          rw [ByteArray.size_append, ByteArray.size_extract, ByteArray.size_extract, Nat.sub_zero, Nat.min_self] at g4
          go_quiet (fail)
          clear g1 g2 g3 g4 hE1
          go_wp2
          go_roundw
          case rel => exact ⟨k + 1, by omega, by go_num, congrArg Value.string (HQ.out.trans HV.out).symm, _, rfl⟩
          case measure => simp [intOf]; omega
        · have HV : Hid (t' = t) := Lib.hid (by
            rw [HN.out]; unfold wrStep; rw [hpA.out, if_neg (by omega), if_neg (by omega), if_neg (by omega)])
          clear HN hE1
          go_wp2_with (first | (go_at_call 26; (with_reducible refine HA1.out.mono ?_); rintro e w' ⟨rfl, rfl⟩) | (go_at_call 26; (with_reducible refine HA2.out.mono ?_); rintro e w' ⟨rfl, rfl⟩))
          go_roundw
          case rel => exact ⟨k + 1, by omega, by go_num, congrArg Value.string (HQ.out.trans HV.out).symm, m, rfl⟩
          case measure => simp [intOf]; omega
      · have HV : Hid (t' = t) := Lib.hid (by
          rw [HN.out]; unfold wrStep; rw [if_neg (by omega), if_neg (by omega), if_neg (by omega)])
        clear HN hE1
        go_wp2_with (first | (go_at_call 26; (with_reducible refine HA1.out.mono ?_); rintro e w' ⟨rfl, rfl⟩) | (go_at_call 26; (with_reducible refine HA2.out.mono ?_); rintro e w' ⟨rfl, rfl⟩))
        go_roundw
        case rel => exact ⟨k + 1, by omega, by go_num, congrArg Value.string (HQ.out.trans HV.out).symm, m, rfl⟩
        case measure => simp [intOf]; omega
    · have hkn : (k : Int) = n := by omega
      have hkk : Hid (k = n.toNat) := Lib.hid (by omega)
      clear hk
      go_wp2
      go_ret
      exact ⟨congrArg (fun q => Ending.returned (Value.string (wrF s l i q))) hkk.out, m, rfl⟩

end Go.Proofs.YtofckokjeiaphaaGreat

namespace Go.Proofs.YtofckokjeiaphaaGreat
open Go.RowKit

/-- Names, the first k of them with letters wrong. -/
def toldNames (n : Nat) (ns : List ByteArray) (l : List Int) (i : Int) (k : Nat) : List ByteArray :=
  (List.range ns.length).map fun (j : Nat) => if j < k then wrF (ns.getD j ByteArray.empty) l (i + 20 * (j : Int)) n else ns.getD j ByteArray.empty
theorem toldNames_len (n : Nat) (ns : List ByteArray) (l : List Int) (i : Int) (k : Nat) : (toldNames n ns l i k).length = ns.length := by simp [toldNames]
theorem toldNames_zero (n : Nat) (ns : List ByteArray) (l : List Int) (i : Int) : toldNames n ns l i 0 = ns := by
  apply List.ext_getElem
  · simp [toldNames]
  · intro j h1 h2; simp [toldNames, h2]
theorem toldNames_get (n : Nat) (ns : List ByteArray) (l : List Int) (i : Int) (k j : Nat) (h : j < ns.length) : (toldNames n ns l i k)[j]'(by simpa [toldNames] using h) = if j < k then wrF ns[j] l (i + 20 * (j : Int)) n else ns[j] := by
  simp [toldNames, h]
theorem toldNames_step (n : Nat) (ns : List ByteArray) (l : List Int) (i : Int) (k : Nat) (h : k < ns.length) : toldNames n ns l i (k + 1) = (toldNames n ns l i k).set k (wrF ns[k] l (i + 20 * (k : Int)) n) := by
  apply List.ext_getElem
  · simp [toldNames]
  · intro j h1 h2
    rw [toldNames_len] at h1
    rw [toldNames_get _ _ _ _ _ _ h1, List.getElem_set]
    by_cases e : k = j
    · subst e; simp
    · rw [if_neg e, toldNames_get _ _ _ _ _ _ h1]
      by_cases hj : j < k
      · rw [if_pos hj, if_pos (by omega)]
      · rw [if_neg hj, if_neg (by omega)]

/-- Digits, with some of them replaced. -/
def digF (ds : List Int) (l : List Int) (i : Int) : Nat → List Int
  | 0 => ds
  | k + 1 => (digF ds l i k).set (atL l (i + 100 + k) % (ds.length : Int)).toNat (48 + atL l (i + 110 + k) % 10)
theorem digF_len (ds l : List Int) (i : Int) : ∀ k, (digF ds l i k).length = ds.length
  | 0 => rfl
  | k + 1 => by rw [digF, List.length_set, digF_len ds l i k]
def digit (x : Int) : Prop := 48 ≤ x ∧ x ≤ 57
theorem digF_dig (ds l : List Int) (i : Int) (h : ∀ x ∈ ds, digit x) : ∀ k, ∀ x ∈ digF ds l i k, digit x
  | 0 => h
  | k + 1 => fun x hx => by
    rcases List.mem_or_eq_of_mem_set hx with h1 | h1
    · exact digF_dig ds l i h k x h1
    · have h2 := Int.emod_nonneg (atL l (i + 110 + k)) (b := 10) (by omega)
      have h3 := Int.emod_lt_of_pos (atL l (i + 110 + k)) (b := 10) (by omega)
      unfold digit; omega

/-- In how many of the first places two lists differ. -/
def dif (a b : List UInt8) : Nat → Nat
  | 0 => 0
  | k + 1 => dif a b k + if a[k]? = b[k]? then 0 else 1
theorem dif_eq (a b : ByteArray) : ∀ k, diffs a b k = dif a.data.toList b.data.toList k
  | 0 => by simp [diffs, dif]
  | k + 1 => by rw [diffs_succ, dif, dif_eq a b k]
theorem dif_self (a : List UInt8) : ∀ k, dif a a k = 0
  | 0 => rfl
  | k + 1 => by rw [dif, dif_self a k]; simp
theorem dif_tri (a b c : List UInt8) : ∀ k, dif b c k ≤ dif a b k + dif a c k
  | 0 => by simp [dif]
  | k + 1 => by
    have := dif_tri a b c k
    simp only [dif]
    by_cases h1 : a[k]? = b[k]?
    · by_cases h2 : a[k]? = c[k]?
      · rw [if_pos h1, if_pos h2, if_pos (h1.symm.trans h2)]; omega
      · rw [if_pos h1, if_neg h2]; split <;> omega
    · rw [if_neg h1]; split <;> split <;> omega
theorem dif_set (a b : List UInt8) (j : Nat) (v : UInt8) : ∀ k, dif a (b.set j v) k ≤ dif a b k + if j < k then 1 else 0
  | 0 => by simp [dif]
  | k + 1 => by
    have := dif_set a b j v k
    simp only [dif]
    by_cases hj : j = k
    · subst hj
      rw [if_neg (Nat.lt_irrefl j)] at this
      rw [if_pos (by omega : j < j + 1)]
      split <;> split <;> omega
    · rw [List.getElem?_set_ne hj]
      by_cases hk : j < k
      · rw [if_pos hk] at this
        rw [if_pos (by omega : j < k + 1)]; omega
      · rw [if_neg hk] at this
        rw [if_neg (by omega : ¬ j < k + 1)]; omega

def numsOf (s : ByteArray) : List Int := s.data.toList.map fun b => (b.toNat : Int)
theorem numsOf_back (s : ByteArray) : (numsOf s).map (fun n => UInt8.ofNat n.toNat) = s.data.toList := by
  unfold numsOf; rw [List.map_map]
  conv => rhs; rw [← List.map_id s.data.toList]
  apply List.map_congr_left
  intro b _
  simp
theorem numsOf_len (s : ByteArray) : (numsOf s).length = s.size := by simp [numsOf]
theorem numsOf_dig {s : ByteArray} (h : allB s.data.toList 48 57 = true) : ∀ x ∈ numsOf s, digit x := by
  intro x hx
  simp only [numsOf, List.mem_map] at hx
  obtain ⟨b, hb, rfl⟩ := hx
  have := List.all_eq_true.1 h b hb
  simp only [inB, Bool.and_eq_true, decide_eq_true_eq] at this
  exact this
theorem digF_dif (s : ByteArray) (l : List Int) (i : Int) : ∀ k, dif s.data.toList ((digF (numsOf s) l i k).map fun n => UInt8.ofNat n.toNat) s.size ≤ k
  | 0 => by rw [digF, numsOf_back, dif_self]; omega
  | k + 1 => by
    have h := digF_dif s l i k
    rw [digF, List.map_set]
    refine Nat.le_trans (dif_set _ _ _ _ _) ?_
    split <;> omega

/-- The number, with digits wrong. -/
def toldNum (n : Nat) (s : ByteArray) (l : List Int) (i : Int) : ByteArray := strOfNums (digF (numsOf s) l i n)
theorem toldNum_ok (n : Nat) {s : ByteArray} (l : List Int) (i : Int) (h : numB s.data.toList = true) : numB (toldNum n s l i).data.toList = true ∧ (s.toList.isEmpty = true ↔ (toldNum n s l i).toList.isEmpty = true) ∧ (toldNum n s l i).size = s.size ∧ diffs s (toldNum n s l i) s.size ≤ n := by
  have hd : (toldNum n s l i).data.toList = (digF (numsOf s) l i n).map fun n => UInt8.ofNat n.toNat := strOfNums_data _
  have hl : (toldNum n s l i).size = s.size := by
    unfold toldNum; rw [strOfNums_size, digF_len, numsOf_len]
  have he : ∀ t : ByteArray, t.toList.isEmpty = true ↔ t.size = 0 := fun t => by
    rw [ByteArray.toList_eq, List.isEmpty_iff_length_eq_zero]; rfl
  refine ⟨?_, ?_, hl, ?_⟩
  · simp only [numB, Bool.or_eq_true, Bool.and_eq_true, decide_eq_true_eq] at h ⊢
    rcases h with h | ⟨h1, h2⟩
    · left
      rw [List.isEmpty_iff_length_eq_zero] at h ⊢
      have e1 : (toldNum n s l i).data.toList.length = (toldNum n s l i).size := rfl
      have e2 : s.data.toList.length = s.size := rfl
      omega
    · right
      have e1 : (toldNum n s l i).data.toList.length = (toldNum n s l i).size := rfl
      have e2 : s.data.toList.length = s.size := rfl
      refine ⟨by omega, ?_⟩
      have hg := digF_dig (numsOf s) l i (numsOf_dig h2) n
      rw [hd]
      unfold allB
      rw [List.all_eq_true]
      intro b hb
      simp only [List.mem_map] at hb
      obtain ⟨x, hx, rfl⟩ := hb
      have := hg x hx
      unfold digit at this
      have e3 : ((UInt8.ofNat x.toNat).toNat : Int) = x := by
        rw [UInt8.toNat_ofNat']; omega
      rw [e3]; simp [inB]; omega
  · rw [he, he, hl]
  · rw [dif_eq, hd]; exact digF_dif s l i n

/-- The record that is told. -/
def toldOff (u : Rul) (l : List Int) (i : Int) : Int := atL l (i + 120) % (u.y / 2 + 1) - atL l (i + 121) % (u.y / 2 + 1)
def toldDay (u : Rul) (r : Rec) (l : List Int) (i : Int) : Int := min (max (r.lo + toldOff u l i) 0) 100000
def toldF (u : Rul) (r : Rec) (l : List Int) (i : Int) : Rec where
  id := r.id
  names := toldNames (u.l / 2).toNat r.names l i r.names.length
  suf := if atL l (i + 124) % 3 = 0 then 0 else r.suf
  lo := max 0 (toldDay u r l i - atL l (i + 122) % 40)
  hi := min 100000 (toldDay u r l i + atL l (i + 123) % 40)
  num := if atL l (i + 125) % 4 = 0 then ByteArray.empty else toldNum (u.d / 2).toNat r.num l i
  twin := r.twin
  stays := r.stays

structure Tol (u : Rul) (r x : Rec) : Prop where
  ok : recB x = true
  len : x.names.length = r.names.length
  nm : ∀ k, (h : k < r.names.length) → lev r.names[k].data.toList (x.names[k]'(by omega)).data.toList ≤ (u.l / 2).toNat
  suf : x.suf = r.suf ∨ x.suf = 0
  day : ∃ d, x.lo ≤ d ∧ d ≤ x.hi ∧ r.lo - u.y / 2 ≤ d ∧ d ≤ r.lo + u.y / 2
  num : x.num.toList.isEmpty = true ∨ (r.num.size = 9 ∧ x.num.size = 9 ∧ diffs r.num x.num 9 ≤ (u.d / 2).toNat)
  twin : x.twin = r.twin

theorem tol_of (u : Rul) (r : Rec) (l : List Int) (i : Int) (hR : rulesB u.l u.d u.y u.t = true) (hr : recB r = true) : Tol u r (toldF u r l i) := by
  have hr0 := hr
  simp only [rulesB, inB, Bool.and_eq_true, decide_eq_true_eq] at hR
  simp only [recB, Bool.and_eq_true] at hr
  obtain ⟨⟨⟨⟨⟨h1, h2⟩, h3⟩, h4⟩, h5⟩, h6⟩ := hr
  simp only [daysB, inB, Bool.and_eq_true, decide_eq_true_eq] at h4
  have hn2 := h2
  simp only [namesB, Bool.and_eq_true] at h2
  have hw : ∀ k, (h : k < r.names.length) → wordB r.names[k] = true := fun k h => List.all_eq_true.1 h2.2 _ (List.getElem_mem h)
  obtain ⟨n1, n2, n3, n4⟩ := toldNum_ok (u.d / 2).toNat l i h5
  have y0 := Int.emod_nonneg (atL l (i + 120)) (b := u.y / 2 + 1) (by omega)
  have y1 := Int.emod_lt_of_pos (atL l (i + 120)) (b := u.y / 2 + 1) (by omega)
  have y2 := Int.emod_nonneg (atL l (i + 121)) (b := u.y / 2 + 1) (by omega)
  have y3 := Int.emod_lt_of_pos (atL l (i + 121)) (b := u.y / 2 + 1) (by omega)
  have y4 := Int.emod_nonneg (atL l (i + 122)) (b := 40) (by omega)
  have y5 := Int.emod_nonneg (atL l (i + 123)) (b := 40) (by omega)
  have hday : 0 ≤ toldDay u r l i ∧ toldDay u r l i ≤ 100000 ∧ r.lo - u.y / 2 ≤ toldDay u r l i ∧ toldDay u r l i ≤ r.lo + u.y / 2 := by
    unfold toldDay toldOff; omega
  refine ⟨?_, toldNames_len _ _ _ _ _, fun k h => ?_, ?_, ⟨toldDay u r l i, ?_, ?_, hday.2.2.1, hday.2.2.2⟩, ?_, rfl⟩
  · have e1 : inB (toldF u r l i).id 0 999999 = true := h1
    have e2 : namesB (toldF u r l i).names = true := by
      rw [namesB, show (toldF u r l i).names.length = r.names.length from toldNames_len _ _ _ _ _, h2.1, Bool.true_and, List.all_eq_true]
      intro s hs
      obtain ⟨k, hk, rfl⟩ := List.getElem_of_mem hs
      have hk' : k < r.names.length := by rwa [show (toldF u r l i).names.length = r.names.length from toldNames_len _ _ _ _ _] at hk
      rw [show (toldF u r l i).names[k] = _ from toldNames_get _ _ _ _ _ _ hk', if_pos hk']
      exact (wrF_ok l _ (hw k hk') _).1
    have e3 : decide ((toldF u r l i).suf ≤ 2) = true := by
      simp only [decide_eq_true_eq] at h3
      show decide ((if atL l (i + 124) % 3 = 0 then 0 else r.suf) ≤ 2) = true
      rw [decide_eq_true_eq]; split <;> omega
    have e4 : daysB (toldF u r l i).lo (toldF u r l i).hi = true := by
      show daysB (max 0 (toldDay u r l i - atL l (i + 122) % 40)) (min 100000 (toldDay u r l i + atL l (i + 123) % 40)) = true
      simp only [daysB, inB, Bool.and_eq_true, decide_eq_true_eq]; omega
    have e5 : numB (toldF u r l i).num.data.toList = true := by
      show numB (if atL l (i + 125) % 4 = 0 then ByteArray.empty else toldNum (u.d / 2).toNat r.num l i).data.toList = true
      split
      · rfl
      · exact n1
    simp only [recB, e1, e2, e3, e4, e5, Bool.and_true, Bool.true_and]
    exact h6
  · have e := toldNames_get (u.l / 2).toNat r.names l i r.names.length k h
    rw [if_pos h] at e
    have g := (wrF_ok l (i + 20 * (k : Int)) (hw k h) (u.l / 2).toNat).2
    rw [← e] at g
    exact g
  · show (if atL l (i + 124) % 3 = 0 then 0 else r.suf) = r.suf ∨ (if atL l (i + 124) % 3 = 0 then 0 else r.suf) = 0
    split
    · right; rfl
    · left; rfl
  · show max 0 (toldDay u r l i - atL l (i + 122) % 40) ≤ toldDay u r l i
    omega
  · show toldDay u r l i ≤ min 100000 (toldDay u r l i + atL l (i + 123) % 40)
    omega
  · show (if atL l (i + 125) % 4 = 0 then ByteArray.empty else toldNum (u.d / 2).toNat r.num l i).toList.isEmpty = true ∨ (r.num.size = 9 ∧ (if atL l (i + 125) % 4 = 0 then ByteArray.empty else toldNum (u.d / 2).toNat r.num l i).size = 9 ∧ diffs r.num (if atL l (i + 125) % 4 = 0 then ByteArray.empty else toldNum (u.d / 2).toNat r.num l i) 9 ≤ (u.d / 2).toNat)
    split
    · left; rw [ByteArray.toList_eq]; rfl
    · by_cases hz : r.num.toList.isEmpty = true
      · left; exact n2.1 hz
      · right
        have := (recB_parts hr0).2.2.2.2.1 (by simpa using hz)
        rw [this] at n3 n4
        exact ⟨this, n3, n4⟩

theorem subs_all {g : ByteArray → ByteArray → Bool} : ∀ (xs ys : List ByteArray), xs.length = ys.length → (∀ k, (h : k < xs.length) → (h' : k < ys.length) → g xs[k] ys[k] = true) → subs g xs ys = true
  | [], ys, _, _ => by simp [subs]
  | x :: xs, [], h, _ => by simp at h
  | x :: xs, y :: ys, h, hg => by
    have h00 : g x y = true := hg 0 (by simp) (by simp)
    rw [subs, if_pos h00]
    exact subs_all xs ys (by simpa using h) fun k h1 h2 => hg (k + 1) (by simp; omega) (by simp; omega)

theorem tol_names {u : Rul} {r x y : Rec} (hl : 0 ≤ u.l) (hn : 0 < r.names.length) (hx : Tol u r x) (hy : Tol u r y) : 2 ≤ namesS u.l x.names y.names := by
  have hlx := hx.len
  have hly := hy.len
  have hg : ∀ k, (h : k < x.names.length) → (h' : k < y.names.length) → (lev x.names[k].data.toList y.names[k].data.toList : Int) ≤ u.l := fun k h h' => by
    have h1 := hx.nm k (by omega)
    have h2 := hy.nm k (by omega)
    have h3 := lev_tri x.names[k].data.toList (r.names[k]'(by omega)).data.toList y.names[k].data.toList
    rw [lev_comm x.names[k].data.toList (r.names[k]'(by omega)).data.toList] at h3
    omega
  rw [namesS, if_neg (by omega)]
  have e1 : x.names.head? = some (x.names[0]'(by omega)) := by rw [List.head?_eq_getElem?]; exact List.getElem?_eq_getElem (by omega)
  have e2 : y.names.head? = some (y.names[0]'(by omega)) := by rw [List.head?_eq_getElem?]; exact List.getElem?_eq_getElem (by omega)
  have hs : subs (fitL u.l) x.names.tail y.names.tail = true := subs_all _ _ (by simp; omega) fun k h h' => by
    simp only [List.length_tail] at h h'
    have := hg (k + 1) (by omega) (by omega)
    simp only [fitL, Bool.or_eq_true, Bool.and_eq_true, decide_eq_true_eq, List.getElem_tail]
    exact .inr ⟨hl, this⟩
  unfold namesF
  split
  · omega
  · rw [if_pos ⟨by rw [e1, e2]; exact hg 0 (by omega) (by omega), hs⟩]; omega
theorem tol_num {u : Rul} {r x y : Rec} (hx : Tol u r x) (hy : Tol u r y) : numS u.d x.num y.num ≠ 0 := by
  unfold numS
  split
  · omega
  · rename_i h0
    simp only [not_or] at h0
    have h1 := hx.num.resolve_left h0.1
    have h2 := hy.num.resolve_left h0.2
    have h3 : diffs x.num y.num 9 ≤ diffs r.num x.num 9 + diffs r.num y.num 9 := by
      rw [dif_eq, dif_eq, dif_eq]; exact dif_tri _ _ _ _
    split
    · omega
    · rw [if_pos (by omega)]; omega
theorem tol_born {u : Rul} {r x y : Rec} (hx : Tol u r x) (hy : Tol u r y) : birS u.y x.lo x.hi y.lo y.hi ≠ 0 := by
  obtain ⟨d, d1, d2, d3, d4⟩ := hx.day
  obtain ⟨e, e1, e2, e3, e4⟩ := hy.day
  unfold birS
  split
  · omega
  · rw [if_pos (by omega)]; omega

theorem tol_mat {u : Rul} {r x y : Rec} (hR : rulesB u.l u.d u.y u.t = true) (hr : recB r = true) (ht : r.twin = false) (hx : Tol u r x) (hy : Tol u r y) : 2 ≤ (matF u x y).names ∧ (matF u x y).num ≠ 0 ∧ (matF u x y).born ≠ 0 ∧ (matF u x y).one ≠ 0 := by
  simp only [rulesB, inB, Bool.and_eq_true, decide_eq_true_eq] at hR
  have hn := (recB_parts hr).1
  simp only [namesB, inB, Bool.and_eq_true, decide_eq_true_eq] at hn
  have h1 := tol_names (by omega) (by omega) hx hy
  have h2 := tol_num hx hy
  have h3 := tol_born hx hy
  refine ⟨h1, h2, h3, ?_⟩
  show oneF (namesS u.l x.names y.names) (numS u.d x.num y.num) (birS u.y x.lo x.hi y.lo y.hi) _ _ _ _ _ ≠ 0
  unfold oneF
  rw [if_neg (by
    rintro (h | h | h | h | h)
    · exact h3 h
    · have := hx.suf
      have := hy.suf
      omega
    · omega
    · exact h2 h.1
    · rw [hx.twin, hy.twin, ht] at h; simp at h)]
  split <;> omega

end Go.Proofs.YtofckokjeiaphaaGreat

namespace Go.Proofs.YtofckokjeiaphaaGreat
open Go.RowKit

/-- A row of bytes of the call's own. -/
def Digs (w : World) (g : Nat) (l : List Int) : Prop := ∃ cs fr, w.heap[g]? = some (.cells cs 5 fr) ∧ l.length ≤ fr.1 ∧ ∀ j, (h : j < l.length) → cs[j]? = some (.int .u8 l[j])
theorem Digs.cell {w : World} {g : Nat} {l : List Int} (h : Digs w g l) {j : Nat} (hj : j < l.length) : w.cell? ⟨g, j, none⟩ = some (.int .u8 l[j]) := by
  obtain ⟨cs, fr, h1, h2, h3⟩ := h
  simp [World.cell?, h1, h3 j hj]
theorem Digs.free {w : World} {g : Nat} {l : List Int} (h : Digs w g l) {j : Nat} (hj : j < l.length) : w.frozen? ⟨g, j, none⟩ = false := by
  obtain ⟨cs, fr, h1, h2, h3⟩ := h
  simp [World.frozen?, h1]; omega
theorem Digs.lt {w : World} {g : Nat} {l : List Int} (h : Digs w g l) : g < w.heap.size := by
  obtain ⟨cs, fr, h1, _⟩ := h
  exact (Array.getElem?_eq_some_iff.1 h1).1
theorem Digs.set {w : World} {g : Nat} {l : List Int} (h : Digs w g l) (j : Nat) (x : Int) : Digs (w.setCell ⟨g, j, none⟩ (.int .u8 x)) g (l.set j x) := by
  obtain ⟨cs, fr, h1, h2, h3⟩ := h
  refine ⟨cs.setIfInBounds j (.int .u8 x), fr, ?_, by simpa using h2, fun k hk => ?_⟩
  · rw [setCell_eq_setRow w g j cs 5 fr _ h1]
    exact setRow_heap w g cs _ 5 _ h1
  · simp only [List.length_set] at hk
    rw [Array.getElem?_setIfInBounds, List.getElem_set]
    have := h3 k hk
    have hs : k < cs.size := by
      rcases Nat.lt_or_ge k cs.size with h | h
      · exact h
      · rw [Array.getElem?_eq_none h] at this; cases this
    by_cases e : j = k
    · subst e; simp [hs]
    · rw [if_neg e, if_neg e]; exact this
theorem Digs.below {w w' : World} {g : Nat} {l : List Int} (h : Digs w g l) (hb : Below w.heap.size w w') : Digs w' g l := by
  have hg := h.lt
  obtain ⟨cs, fr, h1, h2, h3⟩ := h
  exact ⟨cs, fr, (hb.block g hg).trans h1, h2, h3⟩
theorem Digs.far {w : World} {g : Nat} {l : List Int} (h : Digs w g l) {p : Addr} (hp : g ≠ p.block) (v : Value) : Digs (w.setCell p v) g l := by
  obtain ⟨cs, fr, h1, h2, h3⟩ := h
  exact ⟨cs, fr, (Below.heap_setCell _ _ _ _ hp).trans h1, h2, h3⟩
theorem Digs.made (w : World) (s : ByteArray) : Digs (Lib.bytesWorld w 5 s) w.heap.size (numsOf s) := by
  refine ⟨_, _, Lib.bytesWorld_at_new w 5 s, ?_, fun j hj => ?_⟩
  · simp [Lib.bytesCells, numsOf]
  · rw [numsOf_len] at hj
    have hj' : j < s.data.size := hj
    simp [Lib.bytesCells, Array.getElem?_append, numsOf, hj]

theorem at_same {l : List Int} {A : Option Addr} (c : Nat) {i : Int} {w : World} (h : U32s w w.heap.size A l) (hl : l.length ≤ maxLen) (h0 : 0 ≤ i) (h1 : i ≤ 1000000) :
    Calls Tryz.prog 26 #[.slice A l.length c, .int .i64 i] w fun e w' => e = .returned (.int .u32 (atL l i)) ∧ w' = w :=
  (at_any l A c i w h hl h0 h1).mono fun _ _ ⟨a, b⟩ => ⟨a, b.symm⟩
theorem recB_nm' {r : Rec} (h : recB r = true) : r.names.length ≤ 5 := by
  have := (recB_parts h).1
  simp only [namesB, inB, Bool.and_eq_true, decide_eq_true_eq] at this
  omega
theorem recB_st' {r : Rec} (h : recB r = true) : r.stays.length ≤ 6 := by
  have := (recB_parts h).2.2.2.2.2
  simp only [staysB, Bool.and_eq_true, decide_eq_true_eq] at this
  omega

/-- What lies in memory while a record is told. -/
structure TI (B : Nat) (w0 W : World) (u : Rul) (r : Rec) (A D A1 D1 : Option Addr) (c d c1 d1 g9 : Nat) (ns : List ByteArray) (suf lo hi : Int) (num : ByteArray) : Prop where
  k4 : Blk W B #[.int .i64 u.l, .int .i64 u.d, .int .i64 u.y, .int .i64 u.t] 23
  k5 : Blk W (B + 1) #[.int .i64 r.id, .slice A r.names.length c, .int .u8 r.suf, .int .i64 r.lo, .int .i64 r.hi, .string r.num, .bool r.twin, .slice D r.stays.length d] 47
  k8 : Blk W (B + 1 + 1) #[.int .i64 0, .slice none 0 0, .int .u8 0, .int .i64 0, .int .i64 0, .string { data := #[] }, .bool false, .slice none 0 0] 47
  k9 : Blk W g9 #[.int .i64 r.id, .slice A1 r.names.length c1, .int .u8 suf, .int .i64 lo, .int .i64 hi, .string num, .bool r.twin, .slice D1 r.stays.length d1] 47
  oN : W.ownsRow (B + 1 + 1 + 1) 9 1 (.slice A1 r.names.length c1) r.names.length (ns.map Value.string)
  oS : W.ownsRow (B + 1 + 1 + 1) 75 3 (.slice D1 r.stays.length d1) r.stays.length (stayCells r.stays)
  bel : Below B w0 W
  hN : ∀ g, (Value.slice A1 r.names.length c1).ownBlock = some g → g < g9
  hS : ∀ g, (Value.slice D1 r.stays.length d1).ownBlock = some g → g < g9
  hB : B + 1 + 1 < g9

section
variable {B : Nat} {w0 W W' : World} {u : Rul} {r : Rec} {A D A1 D1 : Option Addr} {c d c1 d1 g9 : Nat} {ns : List ByteArray} {suf lo hi : Int} {num : ByteArray}
theorem grow_set (w : World) (p : Addr) (v : Value) : w.grownBy (w.setCell p v) (some p.block) :=
  ⟨rfl, rfl, rfl, by simp, fun k _ hk => heap_setCell_other w p k v (fun e => hk (by rw [e]))⟩
theorem TI.below (h : TI B w0 W u r A D A1 D1 c d c1 d1 g9 ns suf lo hi num) (hb : Below W.heap.size W W') : TI B w0 W' u r A D A1 D1 c d c1 d1 g9 ns suf lo hi num :=
  ⟨h.k4.below hb h.k4.lt, h.k5.below hb h.k5.lt, h.k8.below hb h.k8.lt, h.k9.below hb h.k9.lt, own_below h.oN hb, own_below h.oS hb, h.bel.trans (hb.mono (by have := h.k4.lt; omega)), h.hN, h.hS, h.hB⟩
theorem TI.drew (h : TI B w0 W u r A D A1 D1 c d c1 d1 g9 ns suf lo hi num) (n : Nat) : TI B w0 (W.drewN n) u r A D A1 D1 c d c1 d1 g9 ns suf lo hi num := h.below (below_drewN (Below.refl _ _) n)
theorem TI.far (h : TI B w0 W u r A D A1 D1 c d c1 d1 g9 ns suf lo hi num) {p : Addr} (hp : g9 < p.block) (v : Value) : TI B w0 (W.setCell p v) u r A D A1 D1 c d c1 d1 g9 ns suf lo hi num := by
  have hB := h.hB
  refine ⟨h.k4.far (by omega) v, h.k5.far (by omega) v, h.k8.far (by omega) v, h.k9.far (by omega) v, h.oN.kept (grow_set W p v) ?_, h.oS.kept (grow_set W p v) ?_, h.bel.setCell (by omega) v, h.hN, h.hS, h.hB⟩
  · right; intro e; have := h.hN _ e; omega
  · right; intro e; have := h.hS _ e; omega
theorem TI.name {b : Nat} (h : TI B w0 W u r A D (some ⟨b, 0, none⟩) D1 c d c1 d1 g9 ns suf lo hi num) (hne : (Value.slice D1 r.stays.length d1).ownBlock ≠ some b) (k : Nat) (s : ByteArray) :
    TI B w0 (W.setCell ⟨b, k, none⟩ (.string s)) u r A D (some ⟨b, 0, none⟩) D1 c d c1 d1 g9 (ns.set k s) suf lo hi num := by
  have h1 := h.hN b rfl
  have h2 := (h.oN.lt b rfl).1
  have hB := h.hB
  refine ⟨h.k4.far (by show _ ≠ b; omega) _, h.k5.far (by show _ ≠ b; omega) _, h.k8.far (by show _ ≠ b; omega) _, h.k9.far (by show _ ≠ b; omega) _, ?_, h.oS.kept (grow_set W ⟨b, k, none⟩ _) (.inr hne), h.bel.setCell (by show B ≤ b; omega) _, h.hN, h.hS, h.hB⟩
  rw [List.map_set]
  exact (h.oN.stored k _).1
theorem TI.apart {b : Nat} (h : TI B w0 W u r A D (some ⟨b, 0, none⟩) D1 c d c1 d1 g9 ns suf lo hi num) : (Value.slice D1 r.stays.length d1).ownBlock ≠ some b := fun e => by
  obtain ⟨cur, h1⟩ := own_cells h.oS b e
  obtain ⟨cur', h2⟩ := own_cells h.oN b rfl
  rw [h1] at h2
  simp at h2
/-- A store into the record itself. -/
theorem TI.own9 (h : TI B w0 W u r A D A1 D1 c d c1 d1 g9 ns suf lo hi num) (i : Nat) (v : Value) {suf' lo' hi' : Int} {num' : ByteArray}
    (e : (#[.int .i64 r.id, .slice A1 r.names.length c1, .int .u8 suf, .int .i64 lo, .int .i64 hi, .string num, .bool r.twin, .slice D1 r.stays.length d1] : Array Value).setIfInBounds i v = #[.int .i64 r.id, .slice A1 r.names.length c1, .int .u8 suf', .int .i64 lo', .int .i64 hi', .string num', .bool r.twin, .slice D1 r.stays.length d1]) :
    TI B w0 (W.setCell ⟨g9, i, none⟩ v) u r A D A1 D1 c d c1 d1 g9 ns suf' lo' hi' num' := by
  have hB := h.hB
  refine ⟨h.k4.far (by show _ ≠ g9; omega) v, h.k5.far (by show _ ≠ g9; omega) v, h.k8.far (by show _ ≠ g9; omega) v, e ▸ h.k9.set i v, h.oN.kept (grow_set W ⟨g9, i, none⟩ v) ?_, h.oS.kept (grow_set W ⟨g9, i, none⟩ v) ?_, h.bel.setCell (by show B ≤ g9; omega) v, h.hN, h.hS, h.hB⟩
  · right; intro e; have := h.hN g9 e; omega
  · right; intro e; have := h.hS g9 e; omega
end

theorem RecIn.move {w W : World} {lo hi lo' hi' : Nat} {A D : Option Addr} {r : Rec} (h : RecIn w lo hi A D r) (hag : ∀ b, lo ≤ b → b < hi → W.heap[b]? = w.heap[b]?) (h1 : lo' ≤ lo) (h2 : hi ≤ hi') : RecIn W lo' hi' A D r :=
  ⟨fun k hk => by
    obtain ⟨b, off, e, g1, g2, g3, g4⟩ := h.strs k hk
    exact ⟨b, off, e, by omega, by omega, (World.cell?_of_block (w := w) (hag b g1 g2)).trans g3, g4⟩, fun k hk => by
    obtain ⟨b, off, e, g1, g2, g3, g4, g5⟩ := h.stays k hk
    exact ⟨b, off, e, by omega, by omega, (World.cell?_of_block (w := w) (hag b g1 g2)).trans g3, (World.cell?_of_block (w := w) (hag b g1 g2)).trans g4, (World.cell?_of_block (w := w) (hag b g1 g2)).trans g5⟩, h.names_le, h.stays_le, h.num_le⟩

theorem told_end {B : Nat} {w0 W : World} {u : Rul} {r : Rec} {A D A1 D1 : Option Addr} {c d c1 d1 g9 : Nat} {l : List Int} {i : Int} {suf lo hi : Int} {num : ByteArray}
    (hT : TI B w0 W u r A D A1 D1 c d c1 d1 g9 (toldNames (u.l / 2).toNat r.names l i r.names.length) suf lo hi num) (hR : rulesB u.l u.d u.y u.t = true) (hr : recB r = true) (v0 v1 v2 v3 v4 v5 v6 v7 : Value) :
    RecIn ((((((((W.setCell ⟨B + 1 + 1, 0, none⟩ v0).setCell ⟨B + 1 + 1, 1, none⟩ v1).setCell ⟨B + 1 + 1, 2, none⟩ v2).setCell ⟨B + 1 + 1, 3, none⟩ v3).setCell ⟨B + 1 + 1, 4, none⟩ v4).setCell ⟨B + 1 + 1, 5, none⟩ v5).setCell ⟨B + 1 + 1, 6, none⟩ v6).setCell ⟨B + 1 + 1, 7, none⟩ v7) B ((((((((W.setCell ⟨B + 1 + 1, 0, none⟩ v0).setCell ⟨B + 1 + 1, 1, none⟩ v1).setCell ⟨B + 1 + 1, 2, none⟩ v2).setCell ⟨B + 1 + 1, 3, none⟩ v3).setCell ⟨B + 1 + 1, 4, none⟩ v4).setCell ⟨B + 1 + 1, 5, none⟩ v5).setCell ⟨B + 1 + 1, 6, none⟩ v6).setCell ⟨B + 1 + 1, 7, none⟩ v7).heap.size A1 D1 (toldF u r l i) ∧ Below B w0 ((((((((W.setCell ⟨B + 1 + 1, 0, none⟩ v0).setCell ⟨B + 1 + 1, 1, none⟩ v1).setCell ⟨B + 1 + 1, 2, none⟩ v2).setCell ⟨B + 1 + 1, 3, none⟩ v3).setCell ⟨B + 1 + 1, 4, none⟩ v4).setCell ⟨B + 1 + 1, 5, none⟩ v5).setCell ⟨B + 1 + 1, 6, none⟩ v6).setCell ⟨B + 1 + 1, 7, none⟩ v7) := by
  have hok := (tol_of u r l i hR hr).ok
  have hn1 : (toldF u r l i).names.length = r.names.length := toldNames_len _ _ _ _ _
  have hn5 := recB_nm' hr
  have hs6 := recB_st' hr
  have hw : ∀ s ∈ (toldF u r l i).names, s.size ≤ maxLen := fun s hs => by
    have h1 := (recB_parts hok).1
    simp only [namesB, Bool.and_eq_true] at h1
    have h2 := List.all_eq_true.1 h1.2 s hs
    simp only [wordB, inB, Bool.and_eq_true, decide_eq_true_eq] at h2
    unfold maxLen; omega
  have hnum : (toldF u r l i).num.size ≤ maxLen := by
    by_cases hz : (toldF u r l i).num.toList.isEmpty = true
    · rw [List.isEmpty_iff_length_eq_zero, ByteArray.toList_eq] at hz
      have e : (toldF u r l i).num.data.toList.length = (toldF u r l i).num.size := rfl
      unfold maxLen; omega
    · rw [(recB_parts hok).2.2.2.2.1 (by simpa using hz)]; unfold maxLen; omega
  have hI : RecIn W (B + 1 + 1 + 1) W.heap.size A1 D1 (toldF u r l i) :=
    ⟨strsIn_of_own (Nat.le_refl _) hT.oN hw, staysIn_of_own (Nat.le_refl _) hT.oS, by rw [hn1]; unfold maxLen; omega, by show r.stays.length ≤ maxLen; unfold maxLen; omega, hnum⟩
  refine ⟨hI.move (fun b h1 h2 => ?_) (by omega) (by simp), ?_⟩
  · have hb : b ≠ B + 1 + 1 := by omega
    rw [heap_setCell_other _ _ _ _ hb, heap_setCell_other _ _ _ _ hb, heap_setCell_other _ _ _ _ hb, heap_setCell_other _ _ _ _ hb, heap_setCell_other _ _ _ _ hb, heap_setCell_other _ _ _ _ hb, heap_setCell_other _ _ _ _ hb, heap_setCell_other _ _ _ _ hb]
  · exact (((((((hT.bel.setCell (by show B ≤ B + 1 + 1; omega) _).setCell (by show B ≤ B + 1 + 1; omega) _).setCell (by show B ≤ B + 1 + 1; omega) _).setCell (by show B ≤ B + 1 + 1; omega) _).setCell (by show B ≤ B + 1 + 1; omega) _).setCell (by show B ≤ B + 1 + 1; omega) _).setCell (by show B ≤ B + 1 + 1; omega) _).setCell (by show B ≤ B + 1 + 1; omega) _

set_option maxRecDepth 100000 in
set_option maxHeartbeats 8000000 in
theorem told_any (u : Rul) (r : Rec) (l : List Int) (A D L : Option Addr) (c d cl : Nat) (i : Int) (w : World) (h : RecAt w w.heap.size A D r) (hU : U32s w w.heap.size L l) (hl : l.length ≤ maxLen) (hR : rulesB u.l u.d u.y u.t = true) (hr : recB r = true) (h0 : 0 ≤ i) (h1 : i ≤ 7) :
    Calls Tryz.prog 22 #[.agg #[.int .i64 u.l, .int .i64 u.d, .int .i64 u.y, .int .i64 u.t], .agg #[.int .i64 r.id, .slice A r.names.length c, .int .u8 r.suf, .int .i64 r.lo, .int .i64 r.hi, .string r.num, .bool r.twin, .slice D r.stays.length d], .slice L l.length cl, .int .i64 i] w fun e w' => ∃ A1 c1 D1 d1, e = .returned (.agg #[.int .i64 (toldF u r l i).id, .slice A1 (toldF u r l i).names.length c1, .int .u8 (toldF u r l i).suf, .int .i64 (toldF u r l i).lo, .int .i64 (toldF u r l i).hi, .string (toldF u r l i).num, .bool (toldF u r l i).twin, .slice D1 (toldF u r l i).stays.length d1]) ∧ Hid (RecIn w' w.heap.size w'.heap.size A1 D1 (toldF u r l i)) ∧ Below w.heap.size w w' ∧ (toldF u r l i).names.length ≤ c1 := by
  have b0 : Below w.heap.size w (((w.alloc (.cells #[.int .i64 u.l, .int .i64 u.d, .int .i64 u.y, .int .i64 u.t] 23)).alloc (.cells #[.int .i64 r.id, .slice A r.names.length c, .int .u8 r.suf, .int .i64 r.lo, .int .i64 r.hi, .string r.num, .bool r.twin, .slice D r.stays.length d] 47)).alloc (.cells #[.int .i64 0, .slice none 0 0, .int .u8 0, .int .i64 0, .int .i64 0, .string { data := #[] }, .bool false, .slice none 0 0] 47)) := (((Below.refl _ _).alloc (Nat.le_refl _) _).alloc (by simp) _).alloc (by simp; omega) _
  have k0 := ((Blk.new w #[.int .i64 u.l, .int .i64 u.d, .int .i64 u.y, .int .i64 u.t] 23).alloc (.cells #[.int .i64 r.id, .slice A r.names.length c, .int .u8 r.suf, .int .i64 r.lo, .int .i64 r.hi, .string r.num, .bool r.twin, .slice D r.stays.length d] 47)).alloc (.cells #[.int .i64 0, .slice none 0 0, .int .u8 0, .int .i64 0, .int .i64 0, .string { data := #[] }, .bool false, .slice none 0 0] 47)
  have k1 := (Blk.new (w.alloc (.cells #[.int .i64 u.l, .int .i64 u.d, .int .i64 u.y, .int .i64 u.t] 23)) #[.int .i64 r.id, .slice A r.names.length c, .int .u8 r.suf, .int .i64 r.lo, .int .i64 r.hi, .string r.num, .bool r.twin, .slice D r.stays.length d] 47).alloc (.cells #[.int .i64 0, .slice none 0 0, .int .u8 0, .int .i64 0, .int .i64 0, .string { data := #[] }, .bool false, .slice none 0 0] 47)
  have k2 := Blk.new ((w.alloc (.cells #[.int .i64 u.l, .int .i64 u.d, .int .i64 u.y, .int .i64 u.t] 23)).alloc (.cells #[.int .i64 r.id, .slice A r.names.length c, .int .u8 r.suf, .int .i64 r.lo, .int .i64 r.hi, .string r.num, .bool r.twin, .slice D r.stays.length d] 47)) #[.int .i64 0, .slice none 0 0, .int .u8 0, .int .i64 0, .int .i64 0, .string { data := #[] }, .bool false, .slice none 0 0] 47
  simp only [World.size_alloc] at k1 k2
  have hsz : (((w.alloc (.cells #[.int .i64 u.l, .int .i64 u.d, .int .i64 u.y, .int .i64 u.t] 23)).alloc (.cells #[.int .i64 r.id, .slice A r.names.length c, .int .u8 r.suf, .int .i64 r.lo, .int .i64 r.hi, .string r.num, .bool r.twin, .slice D r.stays.length d] 47)).alloc (.cells #[.int .i64 0, .slice none 0 0, .int .u8 0, .int .i64 0, .int .i64 0, .string { data := #[] }, .bool false, .slice none 0 0] 47)).heap.size = w.heap.size + 1 + 1 + 1 := by simp
  have Hr := h.later b0
  have hrn := recB_nm' hr
  have hrs := recB_st' hr
  have hnum := h.num_le
  have HT := Lib.hid (fun W hh => twin_own A D c d r W hh (by omega) (by omega))
  clear h
  go_enter Tryz.func22, Tryz.ntmps22
  go_upto_region 1 with fail
  generalize ((w.alloc (.cells #[.int .i64 u.l, .int .i64 u.d, .int .i64 u.y, .int .i64 u.t] 23)).alloc (.cells #[.int .i64 r.id, .slice A r.names.length c, .int .u8 r.suf, .int .i64 r.lo, .int .i64 r.hi, .string r.num, .bool r.twin, .slice D r.stays.length d] 47)).alloc (.cells #[.int .i64 0, .slice none 0 0, .int .u8 0, .int .i64 0, .int .i64 0, .string { data := #[] }, .bool false, .slice none 0 0] 47) = W0 at *
  have kc1 := k1.cell
  go_upto_region 2 with (go_at_call 24; (with_reducible refine (HT.out _ Hr).mono ?_); rintro e w1 ⟨A1, c1, D1, d1, rfl, oN, oS, hb1, hc1⟩)
  have hI : TI w.heap.size w (w1.alloc (.cells #[.int .i64 r.id, .slice A1 r.names.length c1, .int .u8 r.suf, .int .i64 r.lo, .int .i64 r.hi, .string r.num, .bool r.twin, .slice D1 r.stays.length d1] 47)) u r A D A1 D1 c d c1 d1 w1.heap.size r.names r.suf r.lo r.hi r.num := by
    have hz := hb1.size
    have e1 : Below W0.heap.size W0 (w1.alloc (.cells #[.int .i64 r.id, .slice A1 r.names.length c1, .int .u8 r.suf, .int .i64 r.lo, .int .i64 r.hi, .string r.num, .bool r.twin, .slice D1 r.stays.length d1] 47)) := hb1.alloc hz _
    refine ⟨k0.below e1 k0.lt, k1.below e1 k1.lt, k2.below e1 k2.lt, Blk.new _ _ _, ?_, ?_, b0.trans (e1.mono b0.size), fun g hg => (oN.lt g hg).2, fun g hg => (oS.lt g hg).2, by omega⟩
    · exact hsz ▸ oN.alloc _
    · exact hsz ▸ oS.alloc _
  clear kc1 k0 k1 k2 Hr HT oN oS hb1 b0 hsz
  generalize w1.alloc (.cells #[.int .i64 r.id, .slice A1 r.names.length c1, .int .u8 r.suf, .int .i64 r.lo, .int .i64 r.hi, .string r.num, .bool r.twin, .slice D1 r.stays.length d1] 47) = V at *
  generalize w1.heap.size = g9 at *
  clear w1 W0
  have hw : ∀ k, (hk : k < r.names.length) → wordB r.names[k] = true := fun k hk => by
    have := (recB_parts hr).1
    simp only [namesB, Bool.and_eq_true] at this
    exact List.all_eq_true.1 this.2 _ (List.getElem_mem hk)
  have Hw := Lib.hid hw
  clear hw
  have hul : 0 ≤ u.l ∧ u.l ≤ 5 := by
    simp only [rulesB, inB, Bool.and_eq_true, decide_eq_true_eq] at hR; omega
  have HI := Lib.hid hI
  have kc9 := hI.k9.cell
  clear hI
  go_upto_block 0 with fail
  go_cut [] (fun wx => Hid (TI w.heap.size w wx u r A D A1 D1 c d c1 d1 g9 (toldNames (u.l / 2).toNat r.names l i r.names.length) r.suf r.lo r.hi r.num))
  case first =>
    clear kc9
    go_wp2_with fail
    go_loopw [20] (fun j wr => ∃ k : Nat, k ≤ r.names.length ∧ j = .int .i64 k ∧ Hid (TI w.heap.size w wr u r A D A1 D1 c d c1 d1 g9 (toldNames (u.l / 2).toNat r.names l i k) r.suf r.lo r.hi r.num)) (fun j _ => r.names.length - (intOf j).toNat)
    case atStart => exact ⟨0, Nat.zero_le _, rfl, Lib.hid (by rw [toldNames_zero]; exact HI.out)⟩
    case round =>
      obtain ⟨k, hk, rfl, hT⟩ := hrel
      by_cases hlt : k < r.names.length
      · obtain ⟨b, cap, hv, hb1, hb2⟩ := hT.out.oN.form (by omega)
        simp only [Value.slice.injEq, true_and] at hv
        obtain ⟨rfl, rfl⟩ := hv
        have cN : wr.cell? ⟨b, k, none⟩ = some (.string r.names[k]) := by
          rw [hT.out.oN.cellAt k (by omega)]
          have := toldNames_get (u.l / 2).toNat r.names l i k k hlt
          rw [if_neg (Nat.lt_irrefl k)] at this
          rw [List.getElem?_map, List.getElem?_eq_getElem (by rw [toldNames_len]; exact hlt), this]; rfl
        have fN := hT.out.oN.frozenAt k
        have kc9 := hT.out.k9.cell
        have kc4 := hT.out.k4.cell
        have bel := hT.out.bel
        have hsW := Hw.out k hlt
        have HS := Lib.hid (fun W (hb : Below wr.heap.size wr W) => show Hid (TI w.heap.size w (W.setCell ⟨b, k, none⟩ (.string (wrF r.names[k] l (i + 20 * (k : Int)) (u.l / 2).toNat))) u r A D (some ⟨b, 0, none⟩) D1 c d c1 d1 g9 (toldNames (u.l / 2).toNat r.names l i (k + 1)) r.suf r.lo r.hi r.num) from Lib.hid (by
          rw [toldNames_step _ _ _ _ _ hlt]
          exact (hT.out.below hb).name hT.out.apart k _))
        have HW := Lib.hid (fun W (hb : Below wr.heap.size wr W) => wrong_any r.names[k] (u.l / 2) l L cl (i + 20 * (k : Int)) W hsW (by omega) (by omega) (hU.later (bel.trans (hb.mono bel.size))) hl (by omega) (by omega))
        have e1 : u.l.tdiv 2 = u.l / 2 := Int.tdiv_eq_ediv_of_nonneg hul.1
        have e2 : IntKind.i64.wrap (u.l / 2) = u.l / 2 := IntWalk.i64_in _ (by omega)
        have e3 : IntKind.i64.wrap (20 * (k : Int)) = 20 * (k : Int) := IntWalk.i64_in _ (by omega)
        have e4 : IntKind.i64.wrap (i + 20 * (k : Int)) = i + 20 * (k : Int) := IntWalk.i64_in _ (by omega)
        have SK : ∀ W, Below wr.heap.size wr W → Below wr.heap.size wr W ∧ (∀ i, W.cell? ⟨g9, i, none⟩ = (#[.int .i64 r.id, .slice (some ⟨b, 0, none⟩) r.names.length c1, .int .u8 r.suf, .int .i64 r.lo, .int .i64 r.hi, .string r.num, .bool r.twin, .slice D1 r.stays.length d1] : Array Value)[i]?) ∧ W.cell? ⟨b, k, none⟩ = some (.string r.names[k]) ∧ (∀ i, W.cell? ⟨w.heap.size, i, none⟩ = (#[.int .i64 u.l, .int .i64 u.d, .int .i64 u.y, .int .i64 u.t] : Array Value)[i]?) := fun W hW => ⟨hW, (hT.out.k9.below hW hT.out.k9.lt).cell, (hW.cell (p := ⟨b, k, none⟩) hb2).trans cN, (hT.out.k4.below hW hT.out.k4.lt).cell⟩
        have dd0 : Below wr.heap.size wr wr.drew := (Below.refl _ _).drew
        have hnk : (k : Int) < (r.names.length : Int) := by omega
        clear hb1 hT Hw hR hr HI
        go_upto_block 1 with fail
        go_cut [] from 21 to 41 (fun wx => Hid (TI w.heap.size w wx u r A D (some ⟨b, 0, none⟩) D1 c d c1 d1 g9 (toldNames (u.l / 2).toNat r.names l i (k + 1)) r.suf r.lo r.hi r.num))
        case first =>
          go_upto_region 5 with fail
          go_region_law (first
            | (go_simp; go_at_call 49; (with_reducible refine (HW.out _ ?_).mono ?_); (with_reducible exact dd0); rintro e w2 ⟨rfl, m, rfl⟩))
          all_goals first | (go_step; go_step; go_meet) | (go_step; go_meet) | go_meet
          all_goals exact HS.out _ (below_drewN (Below.refl _ _) _)
        case rest =>
          clear kc9 kc4 cN fN HS HW SK dd0
          go_wp2
          go_roundw
          case rel => exact ⟨k + 1, by omega, by go_num, hcut⟩
          case measure => simp [intOf]; omega
      · have hk2 : Hid (k = r.names.length) := Lib.hid (by omega)
        have hT2 : Hid (TI w.heap.size w wr u r A D A1 D1 c d c1 d1 g9 (toldNames (u.l / 2).toNat r.names l i r.names.length) r.suf r.lo r.hi r.num) := hk2.out ▸ hT
        go_wp2
        all_goals go_meet
        all_goals exact hT2
  case rest =>
    have HI2 := hcut
    clear hcut HI kc9
    have kc9 := HI2.out.k9.cell
    have hns : r.num.size ≤ maxLen := hnum
    have hcv := fun W => Lib.run_convert_string_bytes (P := Tryz.prog) W 9 62 5 r.num Tryz.underlying9 Tryz.underlying62 Tryz.underlying5
    go_upto_region 8 with fail
    have hBW : Below wc.heap.size wc (Lib.bytesWorld wc 5 r.num) := Joins.below_bytesWorld _ _ _ _ (Nat.le_refl _)
    have hD0 := Digs.made wc r.num
    have hg9 := HI2.out.k9.lt
    have HI3 := Lib.hid (HI2.out.below hBW)
    have hu5 : 0 ≤ u.d ∧ u.d ≤ 5 := by
      simp only [rulesB, inB, Bool.and_eq_true, decide_eq_true_eq] at hR; omega
    have hnum9 : r.num.size ≤ 9 := by
      by_cases hz : r.num.toList.isEmpty = true
      · have : r.num.toList.length = 0 := by rw [List.isEmpty_iff_length_eq_zero] at hz; exact hz
        rw [ByteArray.toList_eq] at this
        have e : r.num.data.toList.length = r.num.size := rfl
        omega
      · rw [(recB_parts hr).2.2.2.2.1 (by simpa using hz)]; omega
    have HD0 := Lib.hid hD0
    clear hcv HI2 hBW kc9 hD0
    generalize grownCap wc r.num.size 0 5 = gc at *
    generalize Lib.bytesWorld wc 5 r.num = V2 at *
    generalize wc.heap.size = gd at *
    have kc4 := HI3.out.k4.cell
    go_upto_block 2 with fail
    go_cut [] (fun wx => Hid (TI w.heap.size w wx u r A D A1 D1 c d c1 d1 g9 (toldNames (u.l / 2).toNat r.names l i r.names.length) r.suf r.lo r.hi r.num ∧ Digs wx gd (digF (numsOf r.num) l i (u.d / 2).toNat)))
    case first =>
      clear kc4
      go_wp2_with fail
      go_loopw [48] (fun j wr => ∃ k : Nat, (k : Int) ≤ u.d / 2 ∧ j = .int .i64 k ∧ Hid (TI w.heap.size w wr u r A D A1 D1 c d c1 d1 g9 (toldNames (u.l / 2).toNat r.names l i r.names.length) r.suf r.lo r.hi r.num ∧ Digs wr gd (digF (numsOf r.num) l i k))) (fun j _ => (u.d / 2).toNat - (intOf j).toNat)
      case atStart => exact ⟨0, by omega, rfl, Lib.hid ⟨HI3.out, HD0.out⟩⟩
      case round =>
        obtain ⟨k, hk, rfl, hT⟩ := hrel
        by_cases hlt : (k : Int) < u.d / 2
        · have bel := hT.out.1.bel
          have HA1 := Lib.hid (at_same (A := L) cl (i := i + 100 + k) (hU.later bel.drew) hl (by omega) (by omega))
          have HA2 := Lib.hid (at_same (A := L) cl (i := i + 110 + k) (hU.later bel.drew) hl (by omega) (by omega))
          have bd1 := atL_bd hU (i + 100 + k)
          have bd2 := atL_bd hU (i + 110 + k)
          have hlen : (digF (numsOf r.num) l i k).length = r.num.size := by rw [digF_len, numsOf_len]
          have HStep : Hid (digF (numsOf r.num) l i (k + 1) = (digF (numsOf r.num) l i k).set (atL l (i + 100 + k) % (r.num.size : Int)).toNat (48 + atL l (i + 110 + k) % 10)) := Lib.hid (by rw [digF, numsOf_len])
          generalize hq : digF (numsOf r.num) l i (k + 1) = ds' at HStep
          have HQ := Lib.hid hq
          clear hq
          generalize digF (numsOf r.num) l i k = ds at *
          generalize atL l (i + 100 + k) = X1 at *
          generalize atL l (i + 110 + k) = X2 at *
          by_cases hz : (0 : Int) < (r.num.size : Int)
          · have j0 := Int.emod_nonneg X1 (b := (r.num.size : Int)) (by omega)
            have j1 := Int.emod_lt_of_pos X1 (b := (r.num.size : Int)) (by omega)
            have x0 := Int.emod_nonneg X2 (b := 10) (by omega)
            have x1 := Int.emod_lt_of_pos X2 (b := 10) (by omega)
            have HStep2 : Hid (∀ W, Below wr.heap.size wr W → Hid (TI w.heap.size w (W.setCell ⟨gd, (X1 % (r.num.size : Int)).toNat, none⟩ (.int .u8 (48 + X2 % 10))) u r A D A1 D1 c d c1 d1 g9 (toldNames (u.l / 2).toNat r.names l i r.names.length) r.suf r.lo r.hi r.num ∧ Digs (W.setCell ⟨gd, (X1 % (r.num.size : Int)).toNat, none⟩ (.int .u8 (48 + X2 % 10))) gd ds')) := Lib.hid (fun W hW => Lib.hid ⟨(hT.out.1.below hW).far (by show g9 < gd; omega) _, by rw [HStep.out]; exact (hT.out.2.below hW).set _ _⟩)
            have cD := hT.out.2.cell (j := (X1 % (r.num.size : Int)).toNat) (by omega)
            have fD := hT.out.2.free (j := (X1 % (r.num.size : Int)).toNat) (by omega)
            have q1 : IntKind.i64.wrap (i + 100) = i + 100 := IntWalk.i64_in _ (by omega)
            have q2 : IntKind.i64.wrap (i + 100 + (k : Int)) = i + 100 + (k : Int) := IntWalk.i64_in _ (by omega)
            have q3 : IntKind.i64.wrap (i + 110) = i + 110 := IntWalk.i64_in _ (by omega)
            have q4 : IntKind.i64.wrap (i + 110 + (k : Int)) = i + 110 + (k : Int) := IntWalk.i64_in _ (by omega)
            have q5 : IntKind.i64.wrap X1 = X1 := IntWalk.i64_in _ (by omega)
            have q6 : X1.tmod (r.num.size : Int) = X1 % (r.num.size : Int) := Int.tmod_eq_emod_of_nonneg (by omega)
            have q7 : IntKind.i64.wrap (X1 % (r.num.size : Int)) = X1 % (r.num.size : Int) := IntWalk.i64_in _ (by omega)
            have q8 : X2.tmod 10 = X2 % 10 := Int.tmod_eq_emod_of_nonneg (by omega)
            have q9 : ((r.num.size : Int) == 0) = false := beq_eq_false_iff_ne.2 (by omega)
            have q10 : ¬ (r.num.size : Int) = 0 := by omega
            have q11 : ¬ r.num = ByteArray.empty := fun e => by rw [e] at hz; exact absurd hz (by decide)
            clear hT HStep
            go_upto_block 3 with fail
            go_cut [] from 49 to 75 (fun wx => Hid (TI w.heap.size w wx u r A D A1 D1 c d c1 d1 g9 (toldNames (u.l / 2).toNat r.names l i r.names.length) r.suf r.lo r.hi r.num ∧ Digs wx gd ds'))
            case first =>
              go_upto_region 12 with fail
              refine wp_region_still_tail 21 (by kernel_rfl) (by kernel_rfl) ?_
              simp only [List.take_succ_cons, List.take_zero, List.drop_succ_cons, List.drop_zero]
              repeat still_step
              still_call (HA1.out)
              repeat still_step
              still_call (HA2.out)
              repeat still_step
              refine wpStill_nil ?_
              change wpList _ _ _ _ _ wr.drew
              go_wp2_with fail
              all_goals go_meet
              all_goals exact HStep2.out _ (Below.refl _ _).drew
            case rest =>
              go_wp2
              go_roundw
              case rel => exact ⟨k + 1, by omega, by go_num, by rw [HQ.out]; exact hcut⟩
              case measure => simp [intOf]; omega
          · have hds : ds' = ds := by
              rw [HStep.out]
              have : ds = [] := List.eq_nil_of_length_eq_zero (by omega)
              rw [this]; rfl
            have hT3 : Hid (TI w.heap.size w wr u r A D A1 D1 c d c1 d1 g9 (toldNames (u.l / 2).toNat r.names l i r.names.length) r.suf r.lo r.hi r.num ∧ Digs wr gd ds') := hds ▸ hT
            clear hds hT HStep hlen HA1 HA2
            go_wp2
            go_roundw
            case rel => exact ⟨k + 1, by omega, by go_num, by rw [HQ.out]; exact hT3⟩
            case measure => simp [intOf]; omega
        · have hk2 : k = (u.d / 2).toNat := by omega
          have hT2 : Hid (TI w.heap.size w wr u r A D A1 D1 c d c1 d1 g9 (toldNames (u.l / 2).toNat r.names l i r.names.length) r.suf r.lo r.hi r.num ∧ Digs wr gd (digF (numsOf r.num) l i (u.d / 2).toNat)) := hk2 ▸ hT
          have hkd : (k : Int) = u.d / 2 := by omega
          have Hkd := Lib.hid hkd
          clear hk2 hkd hT hk
          go_wp2
          all_goals go_meet
          all_goals exact hT2
    case rest =>
      clear HI3 HD0 kc4
      have HT := hcut
      have kc9 := HT.out.1.k9.cell
      have kf9 := HT.out.1.k9.free
      have kl9 := HT.out.1.k9.lt
      have hcs : (convert 62 9 (.slice (some ⟨gd, 0, none⟩) r.num.size gc)).run Tryz.prog wc = .ok (.string (toldNum (u.d / 2).toNat r.num l i)) wc :=
        run_convert_bytes_arg wc 62 5 Tryz.underlying62 Tryz.underlying5 gd 0 r.num.size gc (digF (numsOf r.num) l i (u.d / 2).toNat) (by rw [digF_len, numsOf_len]) (fun j hj => by
          have := HT.out.2.cell (j := j) (by rw [digF_len, numsOf_len]; exact hj)
          rw [Nat.zero_add, this, List.getD_eq_getElem?_getD, List.getElem?_eq_getElem (by rw [digF_len, numsOf_len]; exact hj)]; rfl) 9 Tryz.underlying9
      have HT4 : Hid (TI w.heap.size w (wc.setCell ⟨g9, 5, none⟩ (.string (toldNum (u.d / 2).toNat r.num l i))) u r A D A1 D1 c d c1 d1 g9 (toldNames (u.l / 2).toNat r.names l i r.names.length) r.suf r.lo r.hi (toldNum (u.d / 2).toNat r.num l i)) := Lib.hid (HT.out.1.own9 5 _ rfl)
      clear hcut HT
      go_upto_region 15 with fail
      generalize wc.setCell ⟨g9, 5, none⟩ (.string (toldNum (u.d / 2).toNat r.num l i)) = V3 at *
      clear hcs kc9 kf9 kl9
      have bel := HT4.out.bel
      have kc4 := HT4.out.k4.cell
      have hy : 0 ≤ u.y ∧ u.y ≤ 1000 := by
        simp only [rulesB, inB, Bool.and_eq_true, decide_eq_true_eq] at hR; omega
      obtain ⟨hy0, hy1⟩ := hy
      have HA1 := Lib.hid (at_same (A := L) cl (i := i + 120) (hU.later bel.drew) hl (by omega) (by omega))
      have HA2 := Lib.hid (at_same (A := L) cl (i := i + 121) (hU.later bel.drew) hl (by omega) (by omega))
      have HOff : Hid (toldOff u l i = atL l (i + 120) % (u.y / 2 + 1) - atL l (i + 121) % (u.y / 2 + 1)) := Lib.hid rfl
      have bd1 := atL_bd hU (i + 120)
      have bd2 := atL_bd hU (i + 121)
      generalize atL l (i + 120) = X1 at *
      generalize atL l (i + 121) = X2 at *
      have a0 := Int.emod_nonneg X1 (b := u.y / 2 + 1) (by omega)
      have a1 := Int.emod_lt_of_pos X1 (b := u.y / 2 + 1) (by omega)
      have a2 := Int.emod_nonneg X2 (b := u.y / 2 + 1) (by omega)
      have a3 := Int.emod_lt_of_pos X2 (b := u.y / 2 + 1) (by omega)
      have hoff : -500 ≤ toldOff u l i ∧ toldOff u l i ≤ 500 := by rw [HOff.out]; omega
      go_cut [13] (fun s13 wx => s13 = .int .i64 (toldOff u l i) ∧ V3.drew = wx)
      case first =>
        as_aux_lemma =>
          have q1 : IntKind.i64.wrap (i + 120) = i + 120 := IntWalk.i64_in _ (by omega)
          have q2 : IntKind.i64.wrap (i + 121) = i + 121 := IntWalk.i64_in _ (by omega)
          have q3 : IntKind.i64.wrap X1 = X1 := IntWalk.i64_in _ (by omega)
          have q4 : IntKind.i64.wrap X2 = X2 := IntWalk.i64_in _ (by omega)
          have q5 : u.y.tdiv 2 = u.y / 2 := Int.tdiv_eq_ediv_of_nonneg hy0
          have q6 : IntKind.i64.wrap (u.y / 2) = u.y / 2 := IntWalk.i64_in _ (by omega)
          have q7 : IntKind.i64.wrap (u.y / 2 + 1) = u.y / 2 + 1 := IntWalk.i64_in _ (by omega)
          have q8 : ¬ u.y / 2 + 1 = 0 := by omega
          have q8' : 0 < u.y / 2 + 1 := by omega
          have q9 : X1.tmod (u.y / 2 + 1) = X1 % (u.y / 2 + 1) := Int.tmod_eq_emod_of_nonneg (by omega)
          have q10 : X2.tmod (u.y / 2 + 1) = X2 % (u.y / 2 + 1) := Int.tmod_eq_emod_of_nonneg (by omega)
          have q11 : IntKind.i64.wrap (X1 % (u.y / 2 + 1)) = X1 % (u.y / 2 + 1) := IntWalk.i64_in _ (by omega)
          have q12 : IntKind.i64.wrap (X2 % (u.y / 2 + 1)) = X2 % (u.y / 2 + 1) := IntWalk.i64_in _ (by omega)
          have q13 : IntKind.i64.wrap (X1 % (u.y / 2 + 1) - X2 % (u.y / 2 + 1)) = X1 % (u.y / 2 + 1) - X2 % (u.y / 2 + 1) := IntWalk.i64_in _ (by omega)
          clear HT4 Hw hR hr
          refine wp_region_still_lit (by kernel_rfl) (by kernel_rfl) ?_
          repeat still_step
          still_call (HA1.out)
          repeat still_step
          still_call (HA2.out)
          repeat still_step
          refine wpStill_nil ?_
          first | (go_step; go_step; go_meet) | (go_step; go_meet) | go_meet
          exact ⟨congrArg (Value.int IntKind.i64) HOff.out.symm, rfl⟩
      case rest =>
        obtain ⟨rfl, rfl⟩ := hcut
        have HT5 := Lib.hid (HT4.out.below (Below.refl V3.heap.size V3).drew)
        clear HT4 HA1 HA2 HOff bd1 bd2 a0 a1 a2 a3 kc4 bel X1 X2
        generalize V3.drew = V4 at *
        have bel := HT5.out.bel
        have kc5 := HT5.out.k5.cell
        have hlo := (recB_parts hr).2.2.1
        obtain ⟨hl0, hl1⟩ := hlo
        obtain ⟨ho0, ho1⟩ := hoff
        have HDay : Hid (toldDay u r l i = min (max (r.lo + toldOff u l i) 0) 100000) := Lib.hid rfl
        generalize toldOff u l i = off at *
        go_upto_region 17 with fail
        have dd : 0 ≤ min (max (r.lo + off) 0) 100000 ∧ min (max (r.lo + off) 0) 100000 ≤ 100000 := by omega
        generalize min (max (r.lo + off) 0) 100000 = day at *
        obtain ⟨dd0, dd1⟩ := dd
        have HA1 := Lib.hid (at_any l L cl (i + 122) V4 (hU.later bel) hl (by omega) (by omega))
        have HA2 := Lib.hid (at_any l L cl (i + 123) V4 (hU.later bel) hl (by omega) (by omega))
        have bd1 := atL_bd hU (i + 122)
        have bd2 := atL_bd hU (i + 123)
        have HLo : Hid ((toldF u r l i).lo = max 0 (day - atL l (i + 122) % 40)) := Lib.hid (congrArg (fun z => max 0 (z - atL l (i + 122) % 40)) HDay.out)
        have HHi : Hid ((toldF u r l i).hi = min 100000 (day + atL l (i + 123) % 40)) := Lib.hid (congrArg (fun z => min 100000 (z + atL l (i + 123) % 40)) HDay.out)
        generalize atL l (i + 122) = Y1 at *
        generalize atL l (i + 123) = Y2 at *
        have a0 := Int.emod_nonneg Y1 (b := 40) (by omega)
        have a1 := Int.emod_lt_of_pos Y1 (b := 40) (by omega)
        have a2 := Int.emod_nonneg Y2 (b := 40) (by omega)
        have a3 := Int.emod_lt_of_pos Y2 (b := 40) (by omega)
        have HSp := Lib.hid (fun lo hi => lawSpan_any lo hi V4)
        clear hl1 ho0 ho1 HDay kc5
        go_upto_region 18 with (first
          | (go_at_call 26; (with_reducible refine HA1.out.mono ?_); rintro e w' ⟨rfl, rfl⟩)
          | (go_at_call 26; (with_reducible refine HA2.out.mono ?_); rintro e w' ⟨rfl, rfl⟩)
          | (go_at_call 50; (with_reducible refine (HSp.out _ _).mono ?_); rintro e w5 ⟨rfl, h5⟩; have n9 := (HT5.out.below h5).k9; have kc9 := n9.cell; have kf9 := n9.free; have kl9 := n9.lt))
        have HT6 : Hid (TI w.heap.size w ((w5.setCell ⟨g9, 3, none⟩ (.int .i64 (max 0 (day - Y1 % 40)))).setCell ⟨g9, 4, none⟩ (.int .i64 (min 100000 (day + Y2 % 40)))) u r A D A1 D1 c d c1 d1 g9 (toldNames (u.l / 2).toNat r.names l i r.names.length) r.suf (max 0 (day - Y1 % 40)) (min 100000 (day + Y2 % 40)) (toldNum (u.d / 2).toNat r.num l i)) := by
          have t1 : TI w.heap.size w (w5.setCell ⟨g9, 3, none⟩ (.int .i64 (max 0 (day - Y1 % 40)))) u r A D A1 D1 c d c1 d1 g9 (toldNames (u.l / 2).toNat r.names l i r.names.length) r.suf (max 0 (day - Y1 % 40)) r.hi (toldNum (u.d / 2).toNat r.num l i) := (HT5.out.below h5).own9 3 _ rfl
          exact Lib.hid (t1.own9 4 _ rfl)
        clear HT5 h5 n9 kc9 kf9 kl9 HA1 HA2 HSp bel bd1 bd2
        generalize (w5.setCell ⟨g9, 3, none⟩ (.int .i64 (max 0 (day - Y1 % 40)))).setCell ⟨g9, 4, none⟩ (.int .i64 (min 100000 (day + Y2 % 40))) = V5 at *
        clear a0 a1 a2 a3 dd0 dd1
        generalize max 0 (day - Y1 % 40) = lo at *
        generalize min 100000 (day + Y2 % 40) = hi at *
        have HA3 := Lib.hid (fun W (hW : Below w.heap.size w W) => at_any l L cl (i + 124) W (hU.later hW) hl (by omega) (by omega))
        have HA4 := Lib.hid (fun W (hW : Below w.heap.size w W) => at_any l L cl (i + 125) W (hU.later hW) hl (by omega) (by omega))
        obtain ⟨z0, z1⟩ := atL_bd hU (i + 124)
        obtain ⟨z2, z3⟩ := atL_bd hU (i + 125)
        have HSuf : Hid ((toldF u r l i).suf = if atL l (i + 124) % 3 = 0 then 0 else r.suf) := Lib.hid rfl
        have HNum : Hid ((toldF u r l i).num = if atL l (i + 125) % 4 = 0 then ByteArray.empty else (toldNum (u.d / 2).toNat r.num l i)) := Lib.hid rfl
        generalize atL l (i + 124) = Z1 at *
        generalize atL l (i + 125) = Z2 at *
        have bel := HT6.out.bel
        have kc9 := HT6.out.k9.cell
        have kf9 := HT6.out.k9.free
        have kl9 := HT6.out.k9.lt
        by_cases g3 : Z1 % 3 = 0
        · have T7 : Hid (TI w.heap.size w (V5.setCell ⟨g9, 2, none⟩ (.int .u8 0)) u r A D A1 D1 c d c1 d1 g9 (toldNames (u.l / 2).toNat r.names l i r.names.length) 0 lo hi (toldNum (u.d / 2).toNat r.num l i)) := Lib.hid (HT6.out.own9 2 _ rfl)
          have HS1 : (toldF u r l i).suf = 0 := HSuf.out.trans (if_pos g3)
          have HS1' := Lib.hid HS1
          clear HS1 HSuf
          
          have bel7 := T7.out.bel
          go_upto_region 20 with (go_at_call 26; (with_reducible refine (HA3.out _ bel).mono ?_); rintro e w' ⟨rfl, rfl⟩)
          clear kc9 kf9 kl9
          generalize (V5.setCell ⟨g9, 2, none⟩ (.int .u8 0)) = V7 at *
          have kc9 := T7.out.k9.cell
          have kf9 := T7.out.k9.free
          have kl9 := T7.out.k9.lt
          by_cases g4 : Z2 % 4 = 0
          · have T8 : Hid (TI w.heap.size w (V7.setCell ⟨g9, 5, none⟩ (.string { data := #[] })) u r A D A1 D1 c d c1 d1 g9 (toldNames (u.l / 2).toNat r.names l i r.names.length) 0 lo hi ByteArray.empty) := Lib.hid (T7.out.own9 5 _ rfl)
            
            go_upto_region 22 with (go_at_call 26; (with_reducible refine (HA4.out _ bel7).mono ?_); rintro e w' ⟨rfl, rfl⟩)
            have HS1 := HS1'.out
            have HN1 : (toldF u r l i).num = ByteArray.empty := HNum.out.trans (if_pos g4)
            clear kc9 kf9 kl9
            generalize (V7.setCell ⟨g9, 5, none⟩ (.string { data := #[] })) = W9 at *
            have kc9 := T8.out.k9.cell
            have k8 := T8.out.k8
            have kc8 := k8.cell
            have kf8 := k8.free
            have kl8 := k8.lt
            have HE := Lib.hid (told_end T8.out hR hr)
            have HS1h := Lib.hid HS1
            have HN1h := Lib.hid HN1
            clear HS1 HN1
            go_wp2_with fail
            have R9 := ((((((((k8.set 0 (.int .i64 r.id)).set 1 (.slice A1 r.names.length c1)).set 2 (.int .u8 0)).set 3 (.int .i64 lo)).set 4 (.int .i64 hi)).set 5 (.string ByteArray.empty)).set 6 (.bool r.twin)).set 7 (.slice D1 r.stays.length d1))
            have hrc := R9.cell
            refine bodyPost_ret (v := .agg #[.int .i64 r.id, .slice A1 r.names.length c1, .int .u8 0, .int .i64 lo, .int .i64 hi, .string ByteArray.empty, .bool r.twin, .slice D1 r.stays.length d1]) ?hres rfl ?hpost
            case hres => simp [results, Tryz.results22, go_sem, hrc]
            case hpost =>
              refine ⟨A1, c1, D1, d1, ?_, Lib.hid (HE.out _ _ _ _ _ _ _ _).1, (HE.out _ _ _ _ _ _ _ _).2, by rw [show (toldF u r l i).names.length = r.names.length from toldNames_len _ _ _ _ _]; exact hc1⟩
              rw [HS1h.out, HLo.out, HHi.out, HN1h.out, show (toldF u r l i).names.length = r.names.length from toldNames_len _ _ _ _ _]
              rfl
          · have T8 : Hid (TI w.heap.size w V7 u r A D A1 D1 c d c1 d1 g9 (toldNames (u.l / 2).toNat r.names l i r.names.length) 0 lo hi (toldNum (u.d / 2).toNat r.num l i)) := T7
            have g4b : (Z2 % 4 == 0) = false := by simp; omega
            go_upto_region 22 with (go_at_call 26; (with_reducible refine (HA4.out _ bel7).mono ?_); rintro e w' ⟨rfl, rfl⟩)
            have HS1 := HS1'.out
            have HN1 : (toldF u r l i).num = (toldNum (u.d / 2).toNat r.num l i) := HNum.out.trans (if_neg g4)
            clear kc9 kf9 kl9
            generalize V7 = W9 at *
            have kc9 := T8.out.k9.cell
            have k8 := T8.out.k8
            have kc8 := k8.cell
            have kf8 := k8.free
            have kl8 := k8.lt
            have HE := Lib.hid (told_end T8.out hR hr)
            have HS1h := Lib.hid HS1
            have HN1h := Lib.hid HN1
            clear HS1 HN1
            go_wp2_with fail
            have R9 := ((((((((k8.set 0 (.int .i64 r.id)).set 1 (.slice A1 r.names.length c1)).set 2 (.int .u8 0)).set 3 (.int .i64 lo)).set 4 (.int .i64 hi)).set 5 (.string (toldNum (u.d / 2).toNat r.num l i))).set 6 (.bool r.twin)).set 7 (.slice D1 r.stays.length d1))
            have hrc := R9.cell
            refine bodyPost_ret (v := .agg #[.int .i64 r.id, .slice A1 r.names.length c1, .int .u8 0, .int .i64 lo, .int .i64 hi, .string (toldNum (u.d / 2).toNat r.num l i), .bool r.twin, .slice D1 r.stays.length d1]) ?hres rfl ?hpost
            case hres => simp [results, Tryz.results22, go_sem, hrc]
            case hpost =>
              refine ⟨A1, c1, D1, d1, ?_, Lib.hid (HE.out _ _ _ _ _ _ _ _).1, (HE.out _ _ _ _ _ _ _ _).2, by rw [show (toldF u r l i).names.length = r.names.length from toldNames_len _ _ _ _ _]; exact hc1⟩
              rw [HS1h.out, HLo.out, HHi.out, HN1h.out, show (toldF u r l i).names.length = r.names.length from toldNames_len _ _ _ _ _]
              rfl
        · have T7 : Hid (TI w.heap.size w V5 u r A D A1 D1 c d c1 d1 g9 (toldNames (u.l / 2).toNat r.names l i r.names.length) r.suf lo hi (toldNum (u.d / 2).toNat r.num l i)) := HT6
          have HS1 : (toldF u r l i).suf = r.suf := HSuf.out.trans (if_neg g3)
          have HS1' := Lib.hid HS1
          clear HS1 HSuf
          have g3b : (Z1 % 3 == 0) = false := by simp; omega
          have bel7 := T7.out.bel
          go_upto_region 20 with (go_at_call 26; (with_reducible refine (HA3.out _ bel).mono ?_); rintro e w' ⟨rfl, rfl⟩)
          clear kc9 kf9 kl9
          generalize V5 = V7 at *
          have kc9 := T7.out.k9.cell
          have kf9 := T7.out.k9.free
          have kl9 := T7.out.k9.lt
          by_cases g4 : Z2 % 4 = 0
          · have T8 : Hid (TI w.heap.size w (V7.setCell ⟨g9, 5, none⟩ (.string { data := #[] })) u r A D A1 D1 c d c1 d1 g9 (toldNames (u.l / 2).toNat r.names l i r.names.length) r.suf lo hi ByteArray.empty) := Lib.hid (T7.out.own9 5 _ rfl)
            
            go_upto_region 22 with (go_at_call 26; (with_reducible refine (HA4.out _ bel7).mono ?_); rintro e w' ⟨rfl, rfl⟩)
            have HS1 := HS1'.out
            have HN1 : (toldF u r l i).num = ByteArray.empty := HNum.out.trans (if_pos g4)
            clear kc9 kf9 kl9
            generalize (V7.setCell ⟨g9, 5, none⟩ (.string { data := #[] })) = W9 at *
            have kc9 := T8.out.k9.cell
            have k8 := T8.out.k8
            have kc8 := k8.cell
            have kf8 := k8.free
            have kl8 := k8.lt
            have HE := Lib.hid (told_end T8.out hR hr)
            have HS1h := Lib.hid HS1
            have HN1h := Lib.hid HN1
            clear HS1 HN1
            go_wp2_with fail
            have R9 := ((((((((k8.set 0 (.int .i64 r.id)).set 1 (.slice A1 r.names.length c1)).set 2 (.int .u8 r.suf)).set 3 (.int .i64 lo)).set 4 (.int .i64 hi)).set 5 (.string ByteArray.empty)).set 6 (.bool r.twin)).set 7 (.slice D1 r.stays.length d1))
            have hrc := R9.cell
            refine bodyPost_ret (v := .agg #[.int .i64 r.id, .slice A1 r.names.length c1, .int .u8 r.suf, .int .i64 lo, .int .i64 hi, .string ByteArray.empty, .bool r.twin, .slice D1 r.stays.length d1]) ?hres rfl ?hpost
            case hres => simp [results, Tryz.results22, go_sem, hrc]
            case hpost =>
              refine ⟨A1, c1, D1, d1, ?_, Lib.hid (HE.out _ _ _ _ _ _ _ _).1, (HE.out _ _ _ _ _ _ _ _).2, by rw [show (toldF u r l i).names.length = r.names.length from toldNames_len _ _ _ _ _]; exact hc1⟩
              rw [HS1h.out, HLo.out, HHi.out, HN1h.out, show (toldF u r l i).names.length = r.names.length from toldNames_len _ _ _ _ _]
              rfl
          · have T8 : Hid (TI w.heap.size w V7 u r A D A1 D1 c d c1 d1 g9 (toldNames (u.l / 2).toNat r.names l i r.names.length) r.suf lo hi (toldNum (u.d / 2).toNat r.num l i)) := T7
            have g4b : (Z2 % 4 == 0) = false := by simp; omega
            go_upto_region 22 with (go_at_call 26; (with_reducible refine (HA4.out _ bel7).mono ?_); rintro e w' ⟨rfl, rfl⟩)
            have HS1 := HS1'.out
            have HN1 : (toldF u r l i).num = (toldNum (u.d / 2).toNat r.num l i) := HNum.out.trans (if_neg g4)
            clear kc9 kf9 kl9
            generalize V7 = W9 at *
            have kc9 := T8.out.k9.cell
            have k8 := T8.out.k8
            have kc8 := k8.cell
            have kf8 := k8.free
            have kl8 := k8.lt
            have HE := Lib.hid (told_end T8.out hR hr)
            have HS1h := Lib.hid HS1
            have HN1h := Lib.hid HN1
            clear HS1 HN1
            go_wp2_with fail
            have R9 := ((((((((k8.set 0 (.int .i64 r.id)).set 1 (.slice A1 r.names.length c1)).set 2 (.int .u8 r.suf)).set 3 (.int .i64 lo)).set 4 (.int .i64 hi)).set 5 (.string (toldNum (u.d / 2).toNat r.num l i))).set 6 (.bool r.twin)).set 7 (.slice D1 r.stays.length d1))
            have hrc := R9.cell
            refine bodyPost_ret (v := .agg #[.int .i64 r.id, .slice A1 r.names.length c1, .int .u8 r.suf, .int .i64 lo, .int .i64 hi, .string (toldNum (u.d / 2).toNat r.num l i), .bool r.twin, .slice D1 r.stays.length d1]) ?hres rfl ?hpost
            case hres => simp [results, Tryz.results22, go_sem, hrc]
            case hpost =>
              refine ⟨A1, c1, D1, d1, ?_, Lib.hid (HE.out _ _ _ _ _ _ _ _).1, (HE.out _ _ _ _ _ _ _ _).2, by rw [show (toldF u r l i).names.length = r.names.length from toldNames_len _ _ _ _ _]; exact hc1⟩
              rw [HS1h.out, HLo.out, HHi.out, HN1h.out, show (toldF u r l i).names.length = r.names.length from toldNames_len _ _ _ _ _]
              rfl

end Go.Proofs.YtofckokjeiaphaaGreat

namespace Go.Proofs.YtofckokjeiaphaaGreat
open Go.RowKit

/-- Two records in variables of their own. -/
def TwoAt (V : World) (x y : Rec) (s8 s9 : Value) (W : World) : Prop := ∃ g8 g9 A8 c8 D8 d8 A9 c9 D9 d9, s8 = .pointer (some ⟨g8, 0, none⟩) ∧ s9 = .pointer (some ⟨g9, 0, none⟩) ∧ (Blk W g8 #[.int .i64 x.id, .slice A8 x.names.length c8, .int .u8 x.suf, .int .i64 x.lo, .int .i64 x.hi, .string x.num, .bool x.twin, .slice D8 x.stays.length d8] 47 ∧ Blk W g9 #[.int .i64 y.id, .slice A9 y.names.length c9, .int .u8 y.suf, .int .i64 y.lo, .int .i64 y.hi, .string y.num, .bool y.twin, .slice D9 y.stays.length d9] 47) ∧ (RecAt W W.heap.size A8 D8 x ∧ RecAt W W.heap.size A9 D9 y ∧ x.names.length ≤ c8 ∧ y.names.length ≤ c9) ∧ Below V.heap.size V W
/-- Blocks from lo to hi are as they were. -/
def Keep (lo hi : Nat) (w W : World) : Prop := ∀ b, lo ≤ b → b < hi → W.heap[b]? = w.heap[b]?
section
variable {lo hi : Nat} {w W W' : World}
theorem Keep.refl : Keep lo hi w w := fun _ _ _ => rfl
theorem Keep.set (h : Keep lo hi w W) {p : Addr} (hp : p.block < lo ∨ hi ≤ p.block) (v : Value) : Keep lo hi w (W.setCell p v) := fun b h1 h2 => (heap_setCell_other W p b v (by omega)).trans (h b h1 h2)
theorem Keep.alloc (h : Keep lo hi w W) (hz : hi ≤ W.heap.size) (o : Obj) : Keep lo hi w (W.alloc o) := fun b h1 h2 => (Below.heap_alloc _ _ _ (by omega)).trans (h b h1 h2)
theorem Keep.below (h : Keep lo hi w W) (hb : Below W.heap.size W W') (hz : hi ≤ W.heap.size) : Keep lo hi w W' := fun b h1 h2 => (hb.block b (by omega)).trans (h b h1 h2)
end
theorem RecIn.kept {w W : World} {lo hi : Nat} {A D : Option Addr} {r : Rec} (h : RecIn w lo hi A D r) (k : Keep lo hi w W) (hz : hi ≤ W.heap.size) : RecAt W W.heap.size A D r := h.at_ k hz
theorem Blk.row8 {w : World} {g : Nat} {t : TypeId} {u0 u1 u2 u3 u4 u5 u6 u7 : Value} (h : Blk w g #[u0, u1, u2, u3, u4, u5, u6, u7] t) (v0 v1 v2 v3 v4 v5 v6 v7 : Value) : Blk ((((((((w.setCell ⟨g, 0, none⟩ v0).setCell ⟨g, 1, none⟩ v1).setCell ⟨g, 2, none⟩ v2).setCell ⟨g, 3, none⟩ v3).setCell ⟨g, 4, none⟩ v4).setCell ⟨g, 5, none⟩ v5).setCell ⟨g, 6, none⟩ v6).setCell ⟨g, 7, none⟩ v7) g #[v0, v1, v2, v3, v4, v5, v6, v7] t := by
  have hh := (((((((h.set 0 v0).set 1 v1).set 2 v2).set 3 v3).set 4 v4).set 5 v5).set 6 v6).set 7 v7
  simp only [List.setIfInBounds_toArray, List.set_cons_zero, List.set_cons_succ] at hh
  exact hh
theorem Blk.row8Z {w : World} {g : Nat} {t : TypeId} (h : Blk w g #[.int .i64 0, .slice none 0 0, .int .u8 0, .int .i64 0, .int .i64 0, .string { data := #[] }, .bool false, .slice none 0 0] t) (v0 v1 v2 v3 v4 v5 v6 v7 : Value) : Blk ((((((((w.setCell ⟨g, 0, none⟩ v0).setCell ⟨g, 1, none⟩ v1).setCell ⟨g, 2, none⟩ v2).setCell ⟨g, 3, none⟩ v3).setCell ⟨g, 4, none⟩ v4).setCell ⟨g, 5, none⟩ v5).setCell ⟨g, 6, none⟩ v6).setCell ⟨g, 7, none⟩ v7) g #[v0, v1, v2, v3, v4, v5, v6, v7] t := h.row8 v0 v1 v2 v3 v4 v5 v6 v7
theorem boolInt (b : Bool) : ∃ P : Int, b = decide (P = 1) := by
  cases b
  · exact ⟨0, rfl⟩
  · exact ⟨1, rfl⟩

end Go.Proofs.YtofckokjeiaphaaGreat

namespace Go.Proofs.YtofckokjeiaphaaGreat
open Go.RowKit

set_option maxRecDepth 100000 in
set_option maxHeartbeats 4000000 in
theorem matchTrue_any (u : Rul) (r : Rec) (l : List Int) (A D L : Option Addr) (c d cl : Nat) (w : World) (hsr : 0 ≤ r.suf) (h : RecAt w w.heap.size A D r) (hU : U32s w w.heap.size L l) (hl : l.length ≤ maxLen) :
    Calls Tryz.prog 4 #[.agg #[.int .i64 u.l, .int .i64 u.d, .int .i64 u.y, .int .i64 u.t], .agg #[.int .i64 r.id, .slice A r.names.length c, .int .u8 r.suf, .int .i64 r.lo, .int .i64 r.hi, .string r.num, .bool r.twin, .slice D r.stays.length d], .slice L l.length cl] w fun e w' => e = .returned (.bool true) ∧ Below w.heap.size w w' := by
  have b0 : Below w.heap.size w ((w.alloc (.cells #[.int .i64 u.l, .int .i64 u.d, .int .i64 u.y, .int .i64 u.t] 23)).alloc (.cells #[.int .i64 r.id, .slice A r.names.length c, .int .u8 r.suf, .int .i64 r.lo, .int .i64 r.hi, .string r.num, .bool r.twin, .slice D r.stays.length d] 47)) := ((Below.refl _ _).alloc (Nat.le_refl _) _).alloc (by simp) _
  have k0 := (Blk.new w #[.int .i64 u.l, .int .i64 u.d, .int .i64 u.y, .int .i64 u.t] 23).alloc (.cells #[.int .i64 r.id, .slice A r.names.length c, .int .u8 r.suf, .int .i64 r.lo, .int .i64 r.hi, .string r.num, .bool r.twin, .slice D r.stays.length d] 47)
  have k1 := Blk.new (w.alloc (.cells #[.int .i64 u.l, .int .i64 u.d, .int .i64 u.y, .int .i64 u.t] 23)) #[.int .i64 r.id, .slice A r.names.length c, .int .u8 r.suf, .int .i64 r.lo, .int .i64 r.hi, .string r.num, .bool r.twin, .slice D r.stays.length d] 47
  simp only [World.size_alloc] at k1
  have Hr := h.later b0
  have Hu := hU.later b0
  have HQ := Lib.hid (fun W => alive_any W)
  have HG := Lib.hid (fun W => refRules_below u.l u.d u.y u.t W)
  have HA := Lib.hid (fun W hh => refRecord_any A D c d r W hh)
  clear h hU
  cases hR : rulesB u.l u.d u.y u.t with
  | false =>
    rw [hR] at HG
    go_enter Tryz.func4, Tryz.ntmps4
    go_upto_region 1 with fail
    generalize (w.alloc (.cells #[.int .i64 u.l, .int .i64 u.d, .int .i64 u.y, .int .i64 u.t] 23)).alloc (.cells #[.int .i64 r.id, .slice A r.names.length c, .int .u8 r.suf, .int .i64 r.lo, .int .i64 r.hi, .string r.num, .bool r.twin, .slice D r.stays.length d] 47) = W0 at *
    go_wp2_with (first | (go_at_call 19; (with_reducible refine (HQ.out _).mono ?_); rintro e w1 ⟨rfl, h1⟩; have c0 := (k0.below h1 k0.lt).cell) | (go_at_call 20; (with_reducible refine (HG.out _).mono ?_); rintro e w2 ⟨rfl, h2⟩; have e2 := h1.trans (h2.mono h1.size); have c1 := (k1.below e2 k1.lt).cell))
    go_ret
    exact ⟨rfl, b0.trans (e2.mono b0.size)⟩
  | true =>
    rw [hR] at HG
    cases hrB : recB r with
    | false =>
      rw [hrB] at HA
      go_enter Tryz.func4, Tryz.ntmps4
      go_upto_region 1 with fail
      generalize (w.alloc (.cells #[.int .i64 u.l, .int .i64 u.d, .int .i64 u.y, .int .i64 u.t] 23)).alloc (.cells #[.int .i64 r.id, .slice A r.names.length c, .int .u8 r.suf, .int .i64 r.lo, .int .i64 r.hi, .string r.num, .bool r.twin, .slice D r.stays.length d] 47) = W0 at *
      go_wp2_with (first | (go_at_call 19; (with_reducible refine (HQ.out _).mono ?_); rintro e w1 ⟨rfl, h1⟩; have c0 := (k0.below h1 k0.lt).cell) | (go_at_call 20; (with_reducible refine (HG.out _).mono ?_); rintro e w2 ⟨rfl, h2⟩; have e2 := h1.trans (h2.mono h1.size); have c1 := (k1.below e2 k1.lt).cell) | (go_at_call 21; (with_reducible refine (HA.out _ (Hr.later e2)).mono ?_); rintro e w3 ⟨rfl, h3⟩; have e3 := e2.trans (h3.mono e2.size); have c2 := (k1.below e3 k1.lt).cell))
      go_ret
      exact ⟨rfl, b0.trans (e3.mono b0.size)⟩
    | true =>
      rw [hrB] at HA
      obtain ⟨P, hP⟩ := boolInt r.twin
      have HP := Lib.hid hP
      clear hP
      go_enter Tryz.func4, Tryz.ntmps4
      go_upto_region 1 with fail
      generalize (w.alloc (.cells #[.int .i64 u.l, .int .i64 u.d, .int .i64 u.y, .int .i64 u.t] 23)).alloc (.cells #[.int .i64 r.id, .slice A r.names.length c, .int .u8 r.suf, .int .i64 r.lo, .int .i64 r.hi, .string r.num, .bool r.twin, .slice D r.stays.length d] 47) = W0 at *
      go_upto_region 4 with (go_at_call 19; (with_reducible refine (HQ.out _).mono ?_); rintro e w1 ⟨rfl, h1⟩)
      have rV := Hr.later h1
      have uV := Hu.later h1
      have K0 := k0.below h1 k0.lt
      have K1 := k1.below h1 k1.lt
      have hbV := b0.trans (h1.mono b0.size)
      clear k0 k1 Hr Hu HQ b0 h1
      generalize w1 = V0 at *
      go_cut [26] (fun s26 wx => s26 = .bool (decide (P = 1)) ∧ Below V0.heap.size V0 wx)
      case first =>
        as_aux_lemma =>
          have c0 := K0.cell
          go_wp2_with (first | (go_at_call 20; (with_reducible refine (HG.out _).mono ?_); rintro e w2 ⟨rfl, h2⟩; have c1 := (K1.below h2 K1.lt).cell) | (go_at_call 21; (with_reducible refine (HA.out _ (rV.later h2)).mono ?_); rintro e w3 ⟨rfl, h3⟩; have e3 := h2.trans (h3.mono h2.size); have c2 := (K1.below e3 K1.lt).cell))
          all_goals go_meet
          all_goals exact ⟨congrArg Value.bool HP.out, e3⟩
      case rest =>
        obtain ⟨rfl, hb1⟩ := hcut
        have rV1 := rV.later hb1
        have uV1 := uV.later hb1
        have K01 := K0.below hb1 K0.lt
        have K11 := K1.below hb1 K1.lt
        have hbV1 := hbV.trans (hb1.mono hbV.size)
        clear rV uV K0 K1 hbV hb1 HG HA
        generalize wc = V at *
        by_cases hP1 : P = 1
        · go_wp2_with fail
          go_ret
          exact ⟨rfl, hbV1⟩
        · have htw : r.twin = false := by rw [HP.out]; simp [hP1]
          have hm := tol_mat hR hrB htw (tol_of u r l 0 hR hrB) (tol_of u r l 7 hR hrB)
          have ok0 := (tol_of u r l 0 hR hrB).ok
          have ok7 := (tol_of u r l 7 hR hrB).ok
          have hE : cmpE u (toldF u r l 0) (toldF u r l 7) = 0 := by simp [cmpE, hR, ok0, ok7]
          have HT1 := Lib.hid (fun W (hW : Below V.heap.size V W) => told_any u r l A D L c d cl 0 W (rV1.later hW) (uV1.later hW) hl hR hrB (by decide) (by decide))
          have HT2 := Lib.hid (fun W (hW : Below V.heap.size V W) => told_any u r l A D L c d cl 7 W (rV1.later hW) (uV1.later hW) hl hR hrB (by decide) (by decide))
          have HM := Lib.hid hm
          have hs0 : 0 ≤ (toldF u r l 0).suf := by show 0 ≤ (if atL l (0 + 124) % 3 = 0 then 0 else r.suf); split <;> omega
          have hs7 : 0 ≤ (toldF u r l 7).suf := by show 0 ≤ (if atL l (7 + 124) % 3 = 0 then 0 else r.suf); split <;> omega
          have HOK := Lib.hid (And.intro hs0 hs7)
          have HE := Lib.hid hE
          clear hm ok0 ok7 hE htw hs0 hs7
          go_upto_region 6 with fail
          generalize toldF u r l 0 = x at *
          generalize toldF u r l 7 = y at *
          have kc3 := K01.cell
          have kc4 := K11.cell
          have SK : ∀ W, Below V.heap.size V W → Below V.heap.size V W ∧ (∀ i, W.cell? ⟨w.heap.size, i, none⟩ = (#[.int .i64 u.l, .int .i64 u.d, .int .i64 u.y, .int .i64 u.t] : Array Value)[i]?) ∧ (∀ i, W.cell? ⟨w.heap.size + 1, i, none⟩ = (#[.int .i64 r.id, .slice A r.names.length c, .int .u8 r.suf, .int .i64 r.lo, .int .i64 r.hi, .string r.num, .bool r.twin, .slice D r.stays.length d] : Array Value)[i]?) := fun W hW => ⟨hW, (K01.below hW K01.lt).cell, (K11.below hW K11.lt).cell⟩
          have dd0 : Below V.heap.size V V.drew := (Below.refl _ _).drew
          go_cut [8, 9] (fun s8 s9 wx => TwoAt V x y s8 s9 wx)
          case first =>
            go_region_held3 (fun W => Below V.heap.size V W ∧ (∀ i, W.cell? ⟨w.heap.size, i, none⟩ = (#[.int .i64 u.l, .int .i64 u.d, .int .i64 u.y, .int .i64 u.t] : Array Value)[i]?) ∧ (∀ i, W.cell? ⟨w.heap.size + 1, i, none⟩ = (#[.int .i64 r.id, .slice A r.names.length c, .int .u8 r.suf, .int .i64 r.lo, .int .i64 r.hi, .string r.num, .bool r.twin, .slice D r.stays.length d] : Array Value)[i]?))
              ((refine SK _ ?_; repeat (first | with_reducible assumption | with_reducible exact Below.refl _ _ | with_reducible refine Below.drew ?_ | with_reducible refine Below.alloc ?_ (by first | omega | (simp; done) | (simp; omega)) _ | with_reducible refine Below.setCell ?_ (by first | omega | (simp; done) | (simp; omega)) _)))
              (first
                | (go_at_call 22; (with_reducible refine (HT1.out _ ?_).mono ?_); exact heldB (by with_reducible assumption); rintro e w1 ⟨A8, c8, D8, d8, rfl, t1, h1, n1⟩; have d1b := rulesB3 h1 (by with_reducible assumption); have hv1 := d1b.size; have hz1 := h1.size; (try (simp at hz1)); (try (have P1 : Blk w1 V.heap.size #[.int .i64 0, .slice none 0 0, .int .u8 0, .int .i64 0, .int .i64 0, .string { data := #[] }, .bool false, .slice none 0 0] 47 := (show Blk ((V.alloc (.cells #[.int .i64 0, .slice none 0 0, .int .u8 0, .int .i64 0, .int .i64 0, .string { data := #[] }, .bool false, .slice none 0 0] 47)).drew) V.heap.size #[.int .i64 0, .slice none 0 0, .int .u8 0, .int .i64 0, .int .i64 0, .string { data := #[] }, .bool false, .slice none 0 0] 47 from Blk.new V #[.int .i64 0, .slice none 0 0, .int .u8 0, .int .i64 0, .int .i64 0, .string { data := #[] }, .bool false, .slice none 0 0] 47).below h1 (by simp); have P1c := P1.cell; have P1f := P1.free; have P1n : ¬ V.heap.size = w1.heap.size := Nat.ne_of_lt P1.lt; have P1m : ¬ w1.heap.size = V.heap.size := fun e => P1n e.symm; have P1l := P1.lt)); (try (have P1 : Blk w1 V.heap.size #[.int .i64 0, .slice none 0 0, .int .u8 0, .int .i64 0, .int .i64 0, .string { data := #[] }, .bool false, .slice none 0 0] 47 := (show Blk (((V.alloc (.cells #[.int .i64 0, .slice none 0 0, .int .u8 0, .int .i64 0, .int .i64 0, .string { data := #[] }, .bool false, .slice none 0 0] 47)).alloc (.cells #[.int .i64 0, .slice none 0 0, .int .u8 0, .int .i64 0, .int .i64 0, .string { data := #[] }, .bool false, .slice none 0 0] 47)).drew) V.heap.size #[.int .i64 0, .slice none 0 0, .int .u8 0, .int .i64 0, .int .i64 0, .string { data := #[] }, .bool false, .slice none 0 0] 47 from (Blk.new V #[.int .i64 0, .slice none 0 0, .int .u8 0, .int .i64 0, .int .i64 0, .string { data := #[] }, .bool false, .slice none 0 0] 47).alloc _).below h1 (by simp; omega); have P1c := P1.cell; have P1f := P1.free; have P1n : ¬ V.heap.size = w1.heap.size := Nat.ne_of_lt P1.lt; have P1m : ¬ w1.heap.size = V.heap.size := fun e => P1n e.symm; have P1l := P1.lt; have P2 : Blk w1 (V.heap.size + 1) #[.int .i64 0, .slice none 0 0, .int .u8 0, .int .i64 0, .int .i64 0, .string { data := #[] }, .bool false, .slice none 0 0] 47 := (show Blk (((V.alloc (.cells #[.int .i64 0, .slice none 0 0, .int .u8 0, .int .i64 0, .int .i64 0, .string { data := #[] }, .bool false, .slice none 0 0] 47)).alloc (.cells #[.int .i64 0, .slice none 0 0, .int .u8 0, .int .i64 0, .int .i64 0, .string { data := #[] }, .bool false, .slice none 0 0] 47)).drew) (V.heap.size + 1) #[.int .i64 0, .slice none 0 0, .int .u8 0, .int .i64 0, .int .i64 0, .string { data := #[] }, .bool false, .slice none 0 0] 47 from newAt _ #[.int .i64 0, .slice none 0 0, .int .u8 0, .int .i64 0, .int .i64 0, .string { data := #[] }, .bool false, .slice none 0 0] 47 (World.size_alloc _ _).symm).below h1 (by simp); have P2c := P2.cell; have P2f := P2.free; have P2n : ¬ (V.heap.size + 1) = w1.heap.size := Nat.ne_of_lt P2.lt; have P2m : ¬ w1.heap.size = (V.heap.size + 1) := fun e => P2n e.symm; have P2l := P2.lt)))
                | (go_at_call 22; (with_reducible refine (HT2.out _ ?_).mono ?_); exact heldB (by with_reducible assumption); rintro e w2 ⟨A9, c9, D9, d9, rfl, t2, h2, n2⟩; have d2b := rulesB3 h2 (by with_reducible assumption); have hv2 := d2b.size; have hz2 := h2.size; (try (simp at hz2)); (try (have R1 : Blk w2 V.heap.size #[.int .i64 0, .slice none 0 0, .int .u8 0, .int .i64 0, .int .i64 0, .string { data := #[] }, .bool false, .slice none 0 0] 47 := P1.below h2 P1.lt; have R1c := R1.cell; have R1f := R1.free; have R1n : ¬ V.heap.size = w2.heap.size := Nat.ne_of_lt R1.lt; have R1m : ¬ w2.heap.size = V.heap.size := fun e => R1n e.symm; have R1l := R1.lt)); (try (have R2 : Blk w2 (V.heap.size + 1) #[.int .i64 0, .slice none 0 0, .int .u8 0, .int .i64 0, .int .i64 0, .string { data := #[] }, .bool false, .slice none 0 0] 47 := P2.below h2 P2.lt; have R2c := R2.cell; have R2f := R2.free; have R2n : ¬ (V.heap.size + 1) = w2.heap.size := Nat.ne_of_lt R2.lt; have R2m : ¬ w2.heap.size = (V.heap.size + 1) := fun e => R2n e.symm; have R2l := R2.lt)); (try (have R1 : Blk w2 V.heap.size #[.int .i64 0, .slice none 0 0, .int .u8 0, .int .i64 0, .int .i64 0, .string { data := #[] }, .bool false, .slice none 0 0] 47 := (P1.alloc (.cells #[.int .i64 0, .slice none 0 0, .int .u8 0, .int .i64 0, .int .i64 0, .string { data := #[] }, .bool false, .slice none 0 0] 47)).below h2 (P1.alloc (.cells #[.int .i64 0, .slice none 0 0, .int .u8 0, .int .i64 0, .int .i64 0, .string { data := #[] }, .bool false, .slice none 0 0] 47)).lt; have R1c := R1.cell; have R1f := R1.free; have R1n : ¬ V.heap.size = w2.heap.size := Nat.ne_of_lt R1.lt; have R1m : ¬ w2.heap.size = V.heap.size := fun e => R1n e.symm; have R1l := R1.lt)); (try (have R3 : Blk w2 w1.heap.size #[.int .i64 0, .slice none 0 0, .int .u8 0, .int .i64 0, .int .i64 0, .string { data := #[] }, .bool false, .slice none 0 0] 47 := (Blk.new w1 #[.int .i64 0, .slice none 0 0, .int .u8 0, .int .i64 0, .int .i64 0, .string { data := #[] }, .bool false, .slice none 0 0] 47).below h2 (by simp); have R3c := R3.cell; have R3f := R3.free; have R3n : ¬ w1.heap.size = w2.heap.size := Nat.ne_of_lt R3.lt; have R3m : ¬ w2.heap.size = w1.heap.size := fun e => R3n e.symm; have R3l := R3.lt)); (try (have R3 : Blk w2 w1.heap.size #[.int .i64 0, .slice none 0 0, .int .u8 0, .int .i64 0, .int .i64 0, .string { data := #[] }, .bool false, .slice none 0 0] 47 := ((Blk.new w1 #[.int .i64 0, .slice none 0 0, .int .u8 0, .int .i64 0, .int .i64 0, .string { data := #[] }, .bool false, .slice none 0 0] 47).alloc (.cells #[.int .i64 0, .slice none 0 0, .int .u8 0, .int .i64 0, .int .i64 0, .string { data := #[] }, .bool false, .slice none 0 0] 47)).below h2 (by simp; omega); have R3c := R3.cell; have R3f := R3.free; have R3n : ¬ w1.heap.size = w2.heap.size := Nat.ne_of_lt R3.lt; have R3m : ¬ w2.heap.size = w1.heap.size := fun e => R3n e.symm; have R3l := R3.lt; have R4 : Blk w2 (w1.heap.size + 1) #[.int .i64 0, .slice none 0 0, .int .u8 0, .int .i64 0, .int .i64 0, .string { data := #[] }, .bool false, .slice none 0 0] 47 := (newAt (w1.alloc (.cells #[.int .i64 0, .slice none 0 0, .int .u8 0, .int .i64 0, .int .i64 0, .string { data := #[] }, .bool false, .slice none 0 0] 47)) #[.int .i64 0, .slice none 0 0, .int .u8 0, .int .i64 0, .int .i64 0, .string { data := #[] }, .bool false, .slice none 0 0] 47 (World.size_alloc _ _).symm).below h2 (by simp); have R4c := R4.cell; have R4f := R4.free; have R4n : ¬ (w1.heap.size + 1) = w2.heap.size := Nat.ne_of_lt R4.lt; have R4m : ¬ w2.heap.size = (w1.heap.size + 1) := fun e => R4n e.symm; have R4l := R4.lt))))
            all_goals first | (go_step; go_step; go_meet) | (go_step; go_meet) | go_meet
            all_goals refine ⟨_, _, A8, c8, D8, d8, A9, c9, D9, d9, rfl, rfl, ⟨?_, ?_⟩, ⟨?_, ?_, n1, n2⟩, heldB (by with_reducible assumption)⟩
            all_goals first
              | ((repeat (first | with_reducible assumption | with_reducible exact Blk.new _ _ _ | with_reducible refine Blk.row8Z ?_ _ _ _ _ _ _ _ _ | with_reducible refine Blk.far ?_ (by dsimp only; omega) _ | with_reducible exact newAt _ _ _ (by simp) | with_reducible refine Blk.alloc ?_ _)); done)
              | ((with_reducible refine RecIn.kept t1.out ?_ (by first | omega | (simp; done) | (simp; omega))); (repeat (first | with_reducible exact Keep.refl | with_reducible refine Keep.set ?_ (by first | omega | (simp; done) | (simp; omega)) _ | with_reducible refine Keep.alloc ?_ (by first | omega | (simp; done) | (simp; omega)) _ | with_reducible refine Keep.below ?_ h2 (by first | omega | (simp; done) | (simp; omega)))); done)
              | ((with_reducible refine RecIn.kept t2.out ?_ (by first | omega | (simp; done) | (simp; omega))); (repeat (first | with_reducible exact Keep.refl | with_reducible refine Keep.set ?_ (by first | omega | (simp; done) | (simp; omega)) _ | with_reducible refine Keep.alloc ?_ (by first | omega | (simp; done) | (simp; omega)) _ | with_reducible refine Keep.below ?_ h2 (by first | omega | (simp; done) | (simp; omega)))); done)
          case rest =>
            obtain ⟨g8, g9, A8, c8, D8, d8, A9, c9, D9, d9, rfl, rfl, ⟨B8, B9⟩, ⟨t1, t2, n1, n2⟩, hb2⟩ := hcut
            have K02 := K01.below hb2 K01.lt
            have hbV2 := hbV1.trans (hb2.mono hbV1.size)
            clear rV1 uV1 K01 K11 hbV1 hb2 HT1 HT2 SK dd0 kc3 kc4
            generalize wc = V2 at *
            have HC := Lib.hid ((cmpM_good HE.out) ▸ HE.out ▸ compare_any u x y A8 A9 D8 D9 c8 c9 d8 d9 V2 HOK.out.1 HOK.out.2 t1 t2 n1 n2)
            generalize matF u x y = M at *
            have c0 := K02.cell
            have cc8 := B8.cell
            have cc9 := B9.cell
            go_upto_region 8 with (go_at_call 23; (with_reducible refine (HC.out).mono ?_); rintro e w5 ⟨rfl, h5⟩)
            have hb5 := (hbV2.trans (h5.mono hbV2.size)).alloc (hbV2.trans (h5.mono hbV2.size)).size (.cells #[.int .u8 M.names, .int .u8 M.num, .int .u8 M.born, .int .u8 M.place, .int .u8 M.one] 54)
            have B5 := Blk.new w5 #[.int .u8 M.names, .int .u8 M.num, .int .u8 M.born, .int .u8 M.place, .int .u8 M.one] 54
            clear t1 t2 B8 B9 K02 hbV2 HC h5 c0 cc8 cc9
            generalize w5.alloc (.cells #[.int .u8 M.names, .int .u8 M.num, .int .u8 M.born, .int .u8 M.place, .int .u8 M.one] 54) = V5 at *
            generalize w5.heap.size = b5 at *
            have c5 := B5.cell
            obtain ⟨m1, m2, m3, m4⟩ := HM.out
            have m2b : (M.num != 0) = true := by simpa using m2
            have m3b : (M.born != 0) = true := by simpa using m3
            have m4b : (M.one != 0) = true := by simpa using m4
            clear m2 m3 m4 HM HE HOK
            go_wp2_with fail
            go_ret
            exact ⟨rfl, hb5⟩

end Go.Proofs.YtofckokjeiaphaaGreat

namespace Go.Proofs.YtofckokjeiaphaaGreat
open Go.RowKit

section
open Go.ChangeShapes Go.WideShapes Go.ChangeAt Go.RowKit Go.Deep

theorem suf_nonneg {r : Rec} (h : RecWf r) : 0 ≤ r.suf := by
  have := h.suf
  simp [Lit.wf] at this
  have h0 : IntKind.u8.min = 0 := by decide
  omega

set_option maxRecDepth 100000 in
set_option maxHeartbeats 1000000 in
theorem matchTrue_lifted (os : Os) (started : os.Started) (H : Type) (enc : TypeId × Value → H) :
    ReturnsInHanded {} Tryz.checked os 4 .any (Rows.matchTrueSpec.pre6 enc Tryz.prog Tryz.f4 Rows.matchTrueRow.domain false) (Rows.matchTrueSpec.post enc Tryz.prog Tryz.f4 false true false false) := by
  refine returnsInHanded_of_change (C := Tryz.checked) Tryz.own started (by kernel_rfl) Tryz.func4
    (ChangeSpec.witness6 (enc := enc) (C := Tryz.checked) false ⟨#[], #[.agg #[.int .i64 0, .int .i64 0, .int .i64 0, .int .i64 0], .agg #[.int .i64 0, .slice none 0 0, .int .u8 0, .int .i64 0, .int .i64 0, .string ByteArray.empty, .bool false, .slice none 0 0], .slice none 0 0], []⟩ 8 (by kernel_rfl) (by kernel_rfl) (by kernel_rfl) (by kernel_rfl)) ?_
  intro W base args ds gs before hval0 hW _ _
  have hval : ∀ (j : Nat) t v, Tryz.f4.params[j]? = some t → args[j]? = some v → Value.okWide Tryz.prog W .any base t v := hval0
  have hW' := hW
  obtain ⟨p, q, hA0, hV, rfl, _, _⟩ := hW
  have hA : DataW.TrodAll enc Tryz.prog W 0 (fun _ => true) true Tryz.f4.params.toList args.toList ds p := hA0
  rw [Tryz.params4] at hA hval
  obtain ⟨v0, v1, v2, d0, d1, d2, p0, p1, p2, rfl, rfl, rfl, h0, h1, h2⟩ := trodAll_three hA
  obtain ⟨rfl, rfl⟩ := trodVars_none hV
  have k0 := h0
  have k1 := h1
  have k2 := h2
  obtain ⟨cs0, rfl, _⟩ := okWide_struct Tryz.underlying23 (hval 0 23 v0 rfl rfl)
  obtain ⟨cs1, rfl, _⟩ := okWide_struct Tryz.underlying47 (hval 1 47 v1 rfl rfl)
  obtain ⟨a3, n3, m3, rfl⟩ := okWide_slice Tryz.underlying48 (hval 2 48 v2 rfl rfl)
  obtain ⟨f0, hf0⟩ := h0
  obtain ⟨f1, hf1⟩ := h1
  obtain ⟨f2, hf2⟩ := h2
  obtain ⟨u, hu, _⟩ := rul_of_trod (show DataW.trod enc Tryz.prog W 0 (fun _ => true) true f0 23 cs0.toList = some (d0, p0) from hf0)
  obtain ⟨r, A, c, D, d, hr, hrec, hwf, _⟩ := rec_of_trod (show DataW.trod enc Tryz.prog W 0 (fun _ => true) true f1 47 cs1.toList = some (d1, p1) from hf1)
  obtain ⟨L, cl, l, hl3, hU, hlen⟩ := u32s_of_trod (show DataW.trod enc Tryz.prog W 0 (fun _ => true) true f2 48 [.slice a3 n3 m3] = some (d2, p2) from hf2)
  obtain ⟨rfl, rfl, rfl⟩ : a3 = L ∧ n3 = l.length ∧ m3 = cl := by simpa using hl3
  obtain rfl : cs0 = #[.int .i64 u.l, .int .i64 u.d, .int .i64 u.y, .int .i64 u.t] := by rw [← Array.toList_inj, hu]
  obtain rfl : cs1 = #[.int .i64 r.id, .slice A r.names.length c, .int .u8 r.suf, .int .i64 r.lo, .int .i64 r.hi, .string r.num, .bool r.twin, .slice D r.stays.length d] := by rw [← Array.toList_inj, hr]
  clear hA0 hval0 hf0 hf1 hf2
  simp only [List.append_nil] at hW'
  have hlt : ∀ z ∈ p0 ++ p1 ++ p2, z.block < W.heap.size := fun z hz => by simpa using hW'.lt z hz
  refine (matchTrue_any u r l A D a3 c d m3 W (suf_nonneg hwf) hrec hU hlen).mono fun e W' ⟨he, hb⟩ => ?_
  subst he
  refine ⟨_, rfl, _, _, _, [], p0 ++ p1 ++ p2, [], hW', ?_, ?_, rfl, hb.frame _, fun h => by cases h⟩
  · exact trodAll_mk1 (shut_bool Tryz.underlying4 true)
  · have ht := trodAll_mk3 (Below.trod Tryz.laidOut (by kernel_rfl) (of_decide_eq_true (by kernel_rfl)) k0 hb fun z hz => hlt z (by simp [hz])) (Below.trod Tryz.laidOut (by kernel_rfl) (of_decide_eq_true (by kernel_rfl)) k1 hb fun z hz => hlt z (by simp [hz]))
      (Below.trod Tryz.laidOut (by kernel_rfl) (of_decide_eq_true (by kernel_rfl)) k2 hb fun z hz => hlt z (by simp [hz]))
    first | exact ht | (rw [← List.append_assoc] at ht; exact ht)

theorem matchTrue_holds : Rows.MatchTrueSaid :=
  OpenClaim.holds_of_wide 4 Tryz.f4 rfl rfl rfl rfl rfl rfl rfl ⟨rfl, rfl, rfl, rfl, rfl⟩ rfl rfl rfl rfl rfl (by kernel_rfl) Tryz.func4 (by kernel_rfl)
    (of_decide_eq_true (by kernel_rfl)) (by unfold Func.isWrapper; first | (rw [if_pos (by decide +kernel)]; kernel_rfl) | (rw [if_neg (by decide +kernel)]; exact ⟨rfl, rfl⟩))
    (fun os started H enc _ => matchTrue_lifted os started H enc)

#print axioms matchTrue_holds
end

end Go.Proofs.YtofckokjeiaphaaGreat
