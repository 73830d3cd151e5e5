/- Sets and their order, by the reference. -/
import Derived.Test.YtkimojiakabbcaaGreatWP4
import Derived.Test.YtkimojiakabbcaaGreatRP3
import Derived.Test.YtkimojiakabbcaaGreatWQ3
import Derived.Deep.LoopGhost
import Derived.Test.YtkimojiakabbcaaGreatSRef8

namespace Go.Proofs.YtkimojiakabbcaaGreat
open Go.RowKit Go.Maps

/-- A list of numbers in new memory; none is no memory. -/
def SetS (w : World) (l : List Int) (e : Ending) (w' : World) : Prop := ∃ A c, e = .returned (.slice A l.length c) ∧ IntsAt w' w'.heap.size A l ∧ (A = none → l = []) ∧ Below w.heap.size w w'
theorem own_noneZ {w : World} {base : Nat} {e : TypeId} {size n c : Nat} {A : Option Addr} {xs : List Value} (h : w.ownsRow base e size (.slice A n c) n xs) (hA : A = none) : n = 0 := (own_none h hA).1
theorem int_newZ (W : World) (x : Value) (t : TypeId) : ∀ ad, (some ⟨W.heap.size, 0, none⟩ : Option Addr) = some ad → ∀ j u, [x][j]? = some u → (W.alloc (.cells #[x] t)).cell? (ad.add j) = some u := fun ad e j u hj => by
  cases e
  rw [WideShapes.add_plain, Nat.zero_add]
  refine ((Blk.new W #[x] t).cell j).trans ?_
  rw [← hj]; simp
set_option maxRecDepth 100000 in
set_option maxHeartbeats 4000000 in
theorem setR_any (b T : Nat) (hb : b < 32) (hT : T ≤ 5) (w : World) : Calls Tryz.prog 38 #[.int .i64 b, .int .i64 T] w (SetS w (setB b T)) := by
  obtain ⟨i0, hi0, hy0, hy1, hy2⟩ := info_parts intInfo
  go_enter Tryz.func38, Tryz.ntmps38
  go_wp2_with fail
  go_loopw [5, 6] (fun aa ii wr => ∃ (i : Nat) (A : Option Addr) (c : Nat), i ≤ T ∧ aa = .slice A (setB b i).length c ∧ ii = .int .i64 i ∧ Hid (wr.ownsRow w.heap.size 3 1 (.slice A (setB b i).length c) (setB b i).length ((setB b i).flatMap intC) ∧ Below w.heap.size w wr)) (fun _ ii _ => T - (vInt ii).toNat)
  case atStart => exact ⟨0, none, 0, Nat.zero_le _, rfl, rfl, Lib.hid ⟨World.ownsRow_nil _ _ _ _, Below.refl _ _⟩⟩
  case round =>
    obtain ⟨i, A, c, hi, rfl, rfl, hR⟩ := hrel
    obtain ⟨hO, hB⟩ := hR.out
    clear hR
    by_cases hlt : i < T
    · have hil : (i : Int) < (T : Int) := by omega
      have hbit := bit_and (b := b) (k := i) hb (by omega)
      have hsu := setB_succ b i
      have hsl := setB_len b i
      have hi64 : (i : Int) ≤ 64 := by omega
      cases hbt : bitN b i with
      | false =>
        rw [hbt] at hbit hsu
        rw [if_neg (by decide), List.append_nil] at hsu
        have HSU := Lib.hid hsu
        have HQ := Lib.hid (And.intro hO hB)
        clear hsu hbt hO hB hsl
        go_wp2_with fail
        go_roundw
        case rel => exact ⟨i + 1, A, c, by omega, by rw [HSU.out], by go_num, Lib.hid ⟨by rw [HSU.out]; exact HQ.out.1, HQ.out.2⟩⟩
        case measure => simp [vInt]; omega
      | true =>
        rw [hbt] at hbit hsu
        rw [if_pos rfl] at hsu
        have HSU := Lib.hid hsu
        have bn := (Below.refl wr.heap.size wr).alloc (Nat.le_refl _) (.cells #[.int .i64 (i : Int)] 3)
        have hO1 := own_below hO bn
        have E1 := hB.trans (bn.mono hB.size)
        clear hsu hbt
        go_upto_region 4 with (at_builtin; refine wpList_append_src _ rfl (.tmp 17) (.tmp 19) 31 rfl w.heap.size 3 i0 _ 1 8 Tryz.underlying31 hi0 hy0 hy1 hy2 rfl (by decide) _ (setB b i).length ((setB b i).flatMap intC) rfl hO1 (some ⟨wr.heap.size, 0, none⟩) 1 1 [.int .i64 (i : Int)] rfl rfl (fun e => by cases e) (int_newZ wr (.int .i64 (i : Int)) 3) (intC_one (i : Int)) (by unfold maxLen; omega) (by omega) E1.size ?_; intro v1 w6 hown6 hg6 hk6; obtain ⟨S1, s1, rfl⟩ := own_slice hown6)
        have HL : Hid ((setB b (i + 1)).length = (setB b i).length + 1) := Lib.hid (by rw [HSU.out, List.length_append]; rfl)
        have HQ : Hid (w6.ownsRow w.heap.size 3 1 (.slice S1 ((setB b i).length + 1) s1) ((setB b i).length + 1) ((setB b (i + 1)).flatMap intC) ∧ Below w.heap.size w w6) := Lib.hid ⟨by rw [HSU.out, List.flatMap_append]; exact hown6, E1.grown hg6 E1.size (fun k e => (hO1.lt k e).1)⟩
        clear hown6 hg6 hk6 E1 hO1 bn hO hB hsl
        go_wp2_with fail
        go_roundw
        case rel => exact ⟨i + 1, S1, s1, by omega, by rw [HL.out], by go_num, by rw [HL.out]; exact HQ⟩
        case measure => simp [vInt]; omega
    · have hil : ¬ (i : Int) < (T : Int) := by omega
      obtain rfl : i = T := by omega
      go_wp2_with fail
      go_ret
      exact ⟨A, c, rfl, Flat.of_own intC_len (by decide) hO, (fun e => List.eq_nil_of_length_eq_zero (own_noneZ hO e)), hB⟩

theorem cmpL_step {a b : List Int} {n : Nat} : ∀ {i : Nat}, a.length = n → b.length = n → i < n → (∀ j, j < i → a.getD j 0 = b.getD j 0) → a.getD i 0 ≠ b.getD i 0 → (cmpL a b < 0 ↔ a.getD i 0 < b.getD i 0) := by
  induction a generalizing b n with
  | nil => intro i h1 _ h3; simp at h1; omega
  | cons x a ih =>
    intro i h1 h2 h3 h4 h5
    cases b with
    | nil => simp at h1 h2; omega
    | cons y b =>
      cases i with
      | zero =>
        simp only [List.getD_cons_zero] at h5 ⊢
        unfold cmpL
        rw [if_pos (fun e => h5 (cmpI_zero.1 e))]
        exact cmpI_neg
      | succ i =>
        have h0 := h4 0 (by omega)
        simp only [List.getD_cons_zero] at h0
        subst h0
        unfold cmpL
        rw [if_neg (by rw [cmpI_zero.2 rfl]; simp)]
        simp only [List.getD_cons_succ] at h5 ⊢
        exact ih (n := n - 1) (i := i) (by simp at h1; omega) (by simp at h2; omega) (by omega) (fun j hj => by have := h4 (j + 1) (by omega); simpa using this) h5
set_option maxRecDepth 100000 in
set_option maxHeartbeats 4000000 in
theorem earlierR_any (a b : List Int) (A B : Option Addr) (ac bc : Nat) (w : World) (hA : IntsAt w w.heap.size A a) (hB : IntsAt w w.heap.size B b) (hl : a.length ≤ b.length ∧ b.length ≤ a.length) (hn : a.length ≤ 1000) :
    Calls Tryz.prog 39 #[.slice A a.length ac, .slice B b.length bc] w fun e w' => e = .returned (.bool (decide (cmpL a b < 0))) ∧ Below w.heap.size w w' := by
  have HV : Hid (∀ i, i < a.length → (∀ j, j < i → a.getD j 0 = b.getD j 0) → a.getD i 0 ≠ b.getD i 0 → decide (cmpL a b < 0) = decide (a.getD i 0 < b.getD i 0)) := Lib.hid (fun i hi h1 h2 => by
    have := cmpL_step (n := a.length) rfl (by omega) hi h1 h2
    by_cases h : cmpL a b < 0
    · rw [decide_eq_true h, decide_eq_true (this.1 h)]
    · rw [decide_eq_false h, decide_eq_false (fun h9 => h (this.2 h9))])
  have HE : Hid ((∀ j, j < a.length → a.getD j 0 = b.getD j 0) → decide (cmpL a b < 0) = false) := Lib.hid (fun h => by
    have e : a = b := List.ext_getElem (by omega) fun j h1 h2 => by
      have := h j h1
      rw [getD_lt _ _ h1, getD_lt _ _ h2] at this
      exact this
    rw [cmpL_zero.2 e]; rfl)
  generalize decide (cmpL a b < 0) = V at *
  go_enter Tryz.func39, Tryz.ntmps39
  go_wp2_with fail
  go_loopw [5] (fun ii wr => ∃ i : Nat, i ≤ a.length ∧ ii = .int .i64 i ∧ Hid ((∀ j, j < i → a.getD j 0 = b.getD j 0) ∧ Below w.heap.size w wr)) (fun ii _ => a.length - (vInt ii).toNat)
  case atStart => exact ⟨0, Nat.zero_le _, rfl, Lib.hid ⟨fun j hj => by omega, Below.refl _ _⟩⟩
  case round =>
    obtain ⟨i, hi, rfl, hR⟩ := hrel
    obtain ⟨hE, hBw⟩ := hR.out
    clear hR
    by_cases hlt : i < a.length
    · have hil : (i : Int) < (a.length : Int) := by omega
      have hlb : i < b.length := by omega
      have hil2 : (i : Int) < (b.length : Int) := by omega
      obtain ⟨b1, o1, rfl, hb1, c1⟩ := ints_at (hA.later hBw) hlt
      obtain ⟨b2, o2, rfl, hb2, c2⟩ := ints_at (hB.later hBw) hlb
      have hG := HV.out i hlt hE
      rw [getD_lt _ _ hlt, getD_lt _ _ hlb] at hG
      have HQ1 : Hid (a.getD i 0 = a[i]) := Lib.hid (getD_lt _ _ hlt)
      have HQ2 : Hid (b.getD i 0 = b[i]) := Lib.hid (getD_lt _ _ hlb)
      generalize a[i] = p1 at *
      generalize b[i] = p2 at *
      have sA := After.cell (B := wr.heap.size) c1 hb1
      have aA := After.cell (B := wr.heap.size) c2 hb2
      by_cases hne : p1 = p2
      · have hne2 : (p1 != p2) = false := by simpa using hne
        have HJ : Hid (∀ j, j < i + 1 → a.getD j 0 = b.getD j 0) := Lib.hid (fun j hj => by
          rcases Nat.lt_or_ge j i with h9 | h9
          · exact hE j h9
          · obtain rfl : j = i := by omega
            rw [HQ1.out, HQ2.out, hne])
        clear hne hG
        go_upto_region 4 with fail
        refine wp_region_class_lit (C := fun w' => ∃ z : After wr.heap.size wr, w' = z.val) (by kernel_rfl) (by kernel_rfl) ⟨⟨_, (Below.refl _ _).drew⟩, rfl⟩ ?_
        repeat (go_big_quiet_step (fail))
        refine wpQuiet_nil ?_
        intro wz0 hw'
        obtain ⟨⟨wz, hz⟩, hw''⟩ := hw'
        dsimp only at hw''
        subst hw''
        clear sA aA
        go_wp2_with fail
        go_roundw
        case rel => exact ⟨i + 1, by omega, by go_num, Lib.hid ⟨HJ.out, hBw.trans (hz.mono hBw.size)⟩⟩
        case measure => simp [vInt]; omega
      · have hne2 : (p1 != p2) = true := by simpa using hne
        have HG := Lib.hid (hG hne)
        clear hne hG
        go_upto_region 4 with fail
        refine wp_region_class_lit (C := fun w' => ∃ z : After wr.heap.size wr, w' = z.val) (by kernel_rfl) (by kernel_rfl) ⟨⟨_, (Below.refl _ _).drew⟩, rfl⟩ ?_
        repeat (go_big_quiet_step (fail))
        refine wpQuiet_nil ?_
        intro wz0 hw'
        obtain ⟨⟨wz, hz⟩, hw''⟩ := hw'
        dsimp only at hw''
        subst hw''
        clear sA aA
        have sA := After.cell (B := wz0.heap.size) ((hz.cell (p := ⟨b1, o1 + i, none⟩) hb1).trans c1) (Nat.lt_of_lt_of_le hb1 hz.size)
        have aA := After.cell (B := wz0.heap.size) ((hz.cell (p := ⟨b2, o2 + i, none⟩) hb2).trans c2) (Nat.lt_of_lt_of_le hb2 hz.size)
        go_upto_region 5 with fail
        refine wp_region_class_lit (C := fun w' => ∃ z : After wz0.heap.size wz0, w' = z.val) (by kernel_rfl) (by kernel_rfl) ⟨⟨_, (Below.refl _ _).drew⟩, rfl⟩ ?_
        repeat (go_big_quiet_step (fail))
        refine wpQuiet_nil ?_
        intro wz1 hw'
        obtain ⟨⟨wz, hz1⟩, hw''⟩ := hw'
        dsimp only at hw''
        subst hw''
        go_wp2_with fail
        go_ret
        exact ⟨ret_bool HG.out.symm, (hBw.trans (hz.mono hBw.size)).trans (hz1.mono (Nat.le_trans hBw.size hz.size))⟩
    · have hil : ¬ (i : Int) < (a.length : Int) := by omega
      obtain rfl : i = a.length := by omega
      have HG := Lib.hid (HE.out hE)
      go_wp2_with fail
      go_ret
      exact ⟨ret_bool HG.out.symm, hBw⟩
end Go.Proofs.YtkimojiakabbcaaGreat

namespace Go.Proofs.YtkimojiakabbcaaGreat
open Go.RowKit Go.Maps

/-- The values with the first i of a set's others. -/
def putV (x s u : List Int) : Nat → List Int
  | 0 => x
  | i + 1 => (putV x s u i).set (s.getD i 0).toNat (u.getD i 0)
theorem putV_len (x s u : List Int) : ∀ i, (putV x s u i).length = x.length
  | 0 => rfl
  | i + 1 => by rw [putV, List.length_set, putV_len x s u i]
/-- What stands for all of each trait of a set. -/
def setL (m : Mdl) (s : List Int) : List (List Int) := s.map fun k => stepsI 0 1000000 (cutsT m k.toNat)
theorem setL_len (m : Mdl) (s : List Int) : (setL m s).length = s.length := by unfold setL; simp
theorem setL_pos (m : Mdl) (s : List Int) : ∀ n ∈ lens (setL m s), 0 < n := fun n hn => by
  unfold lens setL at hn
  rw [List.map_map] at hn
  obtain ⟨k, _, rfl⟩ := List.mem_map.1 hn
  exact List.length_pos_iff.2 (stepsI_neR _ _ _)
/-- The first values by which the answer is another one. -/
def othR (m : Mdl) (x s : List Int) (yes : Bool) : Option (List Int) := (vecs (setL m s)).find? fun u => decide (1000 * m.need ≤ scoreM m (putV x s u s.length)) != yes
def OthS (w : World) (r : Option (List Int)) (e : Ending) (w' : World) : Prop := ∃ A c, e = .returned (.tuple #[.slice A (r.getD []).length c, .bool r.isSome]) ∧ IntsAt w' w'.heap.size A (r.getD []) ∧ Below w.heap.size w w'
theorem oth_some {m : Mdl} {x s : List Int} {yes : Bool} {q : Nat} (hq : q < nums (lens (setL m s))) (h : (decide (1000 * m.need ≤ scoreM m (putV x s (vecD (setL m s) (digs (lens (setL m s)) q)) s.length)) != yes) = true)
    (hb : ∀ j, j < q → (decide (1000 * m.need ≤ scoreM m (putV x s (vecD (setL m s) (digs (lens (setL m s)) j)) s.length)) != yes) = false) : othR m x s yes = some (vecD (setL m s) (digs (lens (setL m s)) q)) := by
  unfold othR
  have hql : q < (vecs (setL m s)).length := by rw [vecs_len]; exact hq
  have hat : ∀ j, (hj : j < nums (lens (setL m s))) → (vecs (setL m s))[j]'(by rw [vecs_len]; exact hj) = vecD (setL m s) (digs (lens (setL m s)) j) := fun j hj => by
    have := vecs_at (setL m s) (setL_pos m s) j hj
    exact (List.getElem?_eq_some_iff.1 this).2
  refine List.find?_eq_some_iff_getElem.2 ⟨h, q, hql, hat q hq, fun j hj => ?_⟩
  rw [hat j (by omega), hb j hj]
  rfl
theorem oth_none {m : Mdl} {x s : List Int} {yes : Bool} (hb : ∀ j, j < nums (lens (setL m s)) → (decide (1000 * m.need ≤ scoreM m (putV x s (vecD (setL m s) (digs (lens (setL m s)) j)) s.length)) != yes) = false) : othR m x s yes = none := by
  unfold othR
  rw [List.find?_eq_none]
  intro u hu
  obtain ⟨j, hj, rfl⟩ := List.mem_iff_getElem.1 hu
  have hj2 : j < nums (lens (setL m s)) := by rw [← vecs_len]; exact hj
  have := vecs_at (setL m s) (setL_pos m s) j hj2
  rw [(List.getElem?_eq_some_iff.1 this).2, hb j hj2]
  decide
theorem own_besideZ {w w' : World} {base : Nat} {e : TypeId} {size n : Nat} {v u : Value} {xs : List Value} (h : w.ownsRow base e size v n xs) (hg : w.grownBy w' u.ownBlock) (hne : ∀ g, u.ownBlock = some g → v.ownBlock ≠ some g) : w'.ownsRow base e size v n xs := by
  refine h.kept hg ?_
  cases hv : v.ownBlock with
  | none => exact .inl rfl
  | some g => exact .inr fun e => hne g e.symm hv
theorem cell_setZ {W : World} {lo gy n c : Nat} {ys : List Int} (h : W.ownsRow lo 3 1 (.slice (some ⟨gy, 0, none⟩) n c) n (ys.flatMap intC)) (hl : ys.length = n) {i : Nat} (hi : i < n) (u : Int) :
    W.cell? ⟨gy, i, none⟩ = some (.int .i64 (ys.getD i 0)) ∧ W.frozen? ⟨gy, i, none⟩ = false ∧ (W.setCell ⟨gy, i, none⟩ (.int .i64 u)).ownsRow lo 3 1 (.slice (some ⟨gy, 0, none⟩) n c) n ((ys.set i u).flatMap intC) := by
  refine ⟨?_, h.frozenAt i, ?_⟩
  · have h9 := flat_get intC_len ys i (by omega) 0 (by decide)
    rw [Nat.mul_one, Nat.add_zero] at h9
    rw [h.cellAt i (by omega), h9, getD_lt _ _ (by omega)]; rfl
  · have h9 := flat_set intC_len ys i (by omega) u 0 (.int .i64 u) (by decide) rfl
    rw [Nat.mul_one, Nat.add_zero] at h9
    rw [h9]
    exact (h.stored i (.int .i64 u)).1

set_option maxRecDepth 100000 in
set_option maxHeartbeats 16000000 in
theorem otherR_any (traits need : Int) (cl : List CrdD) (tl : List TreD) (C T : Option Addr) (c t : Nat) (x : List Int) (X : Option Addr) (xc : Nat) (s : List Int) (SA : Option Addr) (sc : Nat) (yes : Bool) (w : World) (h : MdlAt w w.heap.size ⟨traits, cl, C, c, tl, T, t, need⟩) (hls : MdlLe ⟨traits, cl, C, c, tl, T, t, need⟩) (hx : IntsAt w w.heap.size X x) (hS : IntsAt w w.heap.size SA s) (hM : mdlB ⟨traits, cl.map CrdD.v, tl.map TreD.v, need⟩ = true) (hv : (x.length : Int) = traits) (hs5 : s.length ≤ 5) (hsx : ∀ i, i < s.length → ∃ k : Nat, s.getD i 0 = k ∧ k < x.length) :
    Calls Tryz.prog 40 #[.agg #[.int .i64 traits, .slice C cl.length c, .slice T tl.length t, .int .i64 need], .slice X x.length xc, .slice SA s.length sc, .bool yes] w (OthS w (othR ⟨traits, cl.map CrdD.v, tl.map TreD.v, need⟩ x s yes)) := by
  have b1 := (Below.refl w.heap.size w).alloc (Nat.le_refl _) (.cells #[.int .i64 traits, .slice C cl.length c, .slice T tl.length t, .int .i64 need] 29)
  have k1 := Blk.new w #[.int .i64 traits, .slice C cl.length c, .slice T tl.length t, .int .i64 need] 29
  have gm := k1.lt
  obtain ⟨bX, oX, rfl, -, -⟩ := hx 0 (by have := (mdlB_parts hM).1; dsimp only at this; omega)
  have htr := (mdlB_parts hM).1
  have hnd := (mdlB_parts hM).2.1
  dsimp only at htr hnd
  have hx5 : x.length ≤ 5 := by omega
  have hx1 : 1 ≤ x.length := by omega
  have htl : ∀ k, k < x.length → ∀ y ∈ cl, k < y.scales.length := fun k hk y hy => by
    have := (crdB_parts ((mdlB_parts hM).2.2.2.2.1 _ (List.mem_map_of_mem hy))).2.2.1
    simp only [CrdD.v, List.length_map] at this
    omega
  have HSt := Lib.hid (fun W (hb : Below w.heap.size w W) (k : Nat) (hk : k < x.length) => steps6_any traits need cl tl C T c t k 0 1000000 W (h.later hb) hls (htl k hk))
  have hfit : ∀ k, k < x.length → (stepsI 0 1000000 (cutsT ⟨traits, cl.map CrdD.v, tl.map TreD.v, need⟩ k)).length ≤ 100000 := fun k hk => (stepsI_fit 0 1000000 _ (by
      have e1 := flatMap_leR (f := fcC k) (l := cl) (fun y hy => fcC_len (m := ⟨traits, cl, C, c, tl, T, t, need⟩) hls hy (htl k hk y hy))
      have e2 := flatMap_leR (f := ftC k) (l := tl) (fun y hy => ftC_len (m := ⟨traits, cl, C, c, tl, T, t, need⟩) hls hy)
      have e3 := hls.cards
      have e4 := hls.trees
      dsimp only at e3 e4
      rw [cutsT_eq, List.length_append]
      omega)).1
  have HLen : Hid (∀ n ∈ lens (setL ⟨traits, cl.map CrdD.v, tl.map TreD.v, need⟩ s), n ≤ 100000) := Lib.hid (fun n hn => by
    unfold lens setL at hn
    rw [List.map_map] at hn
    obtain ⟨k, hk, rfl⟩ := List.mem_map.1 hn
    obtain ⟨i, hi, rfl⟩ := List.mem_iff_getElem.1 hk
    obtain ⟨k', e1, e2⟩ := hsx i hi
    rw [getD_lt _ _ hi] at e1
    show (stepsI 0 1000000 (cutsT _ (s[i]).toNat)).length ≤ 100000
    rw [e1, Int.toNat_natCast]
    exact hfit k' e2)
  have HPos := Lib.hid (setL_pos ⟨traits, cl.map CrdD.v, tl.map TreD.v, need⟩ s)
  have HSco := Lib.hid (fun W (hb : Below w.heap.size w W) (A : Option Addr) (a : Nat) (y : List Int) (hy : IntsAt W W.heap.size A y) (hl : y.length = x.length) => score6_all traits need cl tl C T c t y A a W (h.later hb) hy (fun z hz => by rw [hl, hv]; exact (mdlB_parts hM).2.2.2.2.1 _ (List.mem_map_of_mem hz)) (fun z hz => by rw [hl, hv]; exact (mdlB_parts hM).2.2.2.2.2 _ (List.mem_map_of_mem hz)) hls.cards hls.trees (by omega))
  have HX := Lib.hid (fun W (hb : Below w.heap.size w W) => hx.later hb)
  have HSA := Lib.hid (fun W (hb : Below w.heap.size w W) => hS.later hb)
  have Hsx := Lib.hid hsx
  have HKM := Lib.hid (fun W (hb : Below (w.alloc (.cells #[.int .i64 traits, .slice C cl.length c, .slice T tl.length t, .int .i64 need] 29)).heap.size (w.alloc (.cells #[.int .i64 traits, .slice C cl.length c, .slice T tl.length t, .int .i64 need] 29)) W) => k1.below hb gm)
  have k1c := k1.cell
  obtain ⟨i4, hi4, hq0, hq1, hq2⟩ := info_parts lsInfo
  obtain ⟨i0, hi0, hy0, hy1, hy2⟩ := info_parts intInfo
  have HLL := Lib.hid (setL_len ⟨traits, cl.map CrdD.v, tl.map TreD.v, need⟩ s)
  have HSL : Hid (∀ i, (hi : i < s.length) → ∀ k : Nat, s.getD i 0 = k → (setL ⟨traits, cl.map CrdD.v, tl.map TreD.v, need⟩ s)[i]'(by rw [setL_len]; exact hi) = stepsI 0 1000000 (cutsT ⟨traits, cl.map CrdD.v, tl.map TreD.v, need⟩ k)) := Lib.hid (fun i hi k hk => by
    unfold setL
    rw [List.getElem_map]
    rw [getD_lt _ _ hi] at hk
    rw [hk, Int.toNat_natCast])
  have hw1 : IntKind.i64.wrap (1000 * need) = 1000 * need := IntWalk.i64_in _ (by omega)
  clear h hls hx hS hM hsx htl hfit htr
  go_enter Tryz.func40, Tryz.ntmps40
  go_wp2_with fail
  have HB1 := Lib.hid b1
  generalize hW1 : w.alloc (.cells #[.int .i64 traits, .slice C cl.length c, .slice T tl.length t, .int .i64 need] 29) = w1 at *
  clear hW1 k1 k1c b1
  go_loopw [10, 11] (fun ll ii wr => ∃ (i : Nat) (A2 : Option Addr) (c2 : Nat) (ls : List LsD), i ≤ s.length ∧ ll = .slice A2 i c2 ∧ ii = .int .i64 i ∧ Hid (ls.map LsD.l = (setL ⟨traits, cl.map CrdD.v, tl.map TreD.v, need⟩ s).take i) ∧ Hid (LsInv wr w1.heap.size A2 c2 i ls ∧ Below w1.heap.size w1 wr)) (fun _ ii _ => s.length - (vInt ii).toNat)
  case atStart => exact ⟨0, none, 0, [], Nat.zero_le _, rfl, rfl, Lib.hid rfl, Lib.hid ⟨⟨rfl, World.ownsRow_nil _ _ _ _, fun y hy => by simp at hy⟩, Below.refl _ _⟩⟩
  case round =>
    obtain ⟨i, A2, c2, ls, hi, rfl, rfl, hD, hR⟩ := hrel
    obtain ⟨hLI, hB⟩ := hR.out
    by_cases hlt : i < s.length
    · have hil : (i : Int) < (s.length : Int) := by omega
      obtain ⟨k, hk1, hk2⟩ := Hsx.out i hlt
      have bwr := HB1.out.trans (hB.mono HB1.out.size)
      obtain ⟨b9, o9, rfl, hb9, c9⟩ := ints_at (HSA.out wr bwr) hlt
      have hsk : s[i] = (k : Int) := by rw [← getD_lt s 0 hlt]; exact hk1
      rw [hsk] at c9
      have D0 : Below w.heap.size w wr.drew := bwr.drew
      have HCa := Lib.hid (HSt.out wr.drew D0 k hk2)
      have HI := Lib.hid (hLI.below ((Below.refl _ wr).drew))
      have HB9 : Hid (Below w1.heap.size w1 wr.drew) := Lib.hid (hB.drew)
      have hls3 := HB9.out.size
      have hls4 : w1.heap.size ≤ wr.heap.size := hls3
      have km := (HKM.out wr hB).cell
      have HN : Hid ((setL ⟨traits, cl.map CrdD.v, tl.map TreD.v, need⟩ s).take (i + 1) = (setL ⟨traits, cl.map CrdD.v, tl.map TreD.v, need⟩ s).take i ++ [stepsI 0 1000000 (cutsT ⟨traits, cl.map CrdD.v, tl.map TreD.v, need⟩ k)]) := Lib.hid (by
        rw [List.take_succ_eq_append_getElem (by rw [setL_len]; exact hlt), HSL.out i hlt k hk1])
      generalize stepsI 0 1000000 (cutsT ⟨traits, cl.map CrdD.v, tl.map TreD.v, need⟩ k) = sl at *
      clear hsk hR hLI hB bwr
      go_upto_region 5 with fail
      go_region_law (first
        | (go_simp; go_at_call 43; (with_reducible refine (HCa.out).mono ?_); rintro e w7 ⟨A7, a7, rfl, hA7, ha7, h7, f7⟩; have hI7 := HI.out.below h7; have hI8 := hI7.below ((Below.refl w7.heap.size w7).alloc (Nat.le_refl _) (.cells #[.slice A7 sl.length a7] 31)); have hv7 := h7.size)
        | (refine step_append_src (by rfl) _ _ _ (by rfl) w1.heap.size 31 i4 _ 1 24 Tryz.underlying99 hi4 hq0 hq1 hq2 rfl (by decide) _ _ _ (by rfl) hI8.2.1 (some ⟨w7.heap.size, 0, none⟩) 1 1 [.slice A7 sl.length a7] (by rfl) (by rfl) (fun e => by cases e) (fun ad e => by cases e; exact sl_new w7 _ _) sl_ones (by unfold maxLen; omega) (by omega) (by rw [World.size_alloc]; exact Nat.le_trans (Nat.le_trans hls4 hv7) (Nat.le_succ _)) ?_; intro v8 w8 hown8 hg8 ho8; obtain ⟨A8, c8, rfl⟩ := own_slice hown8))
      all_goals have hfx : FlatX 1 intC (w7.alloc (.cells #[.slice A7 sl.length a7] 31)) w1.heap.size (Value.slice A2 i c2).ownBlock A7 sl := FlatX.below (fun k hk => by
        obtain ⟨b9, off9, e9, h1, h2⟩ := hA7 k hk
        have h3 := f7 _ e9
        exact ⟨b9, off9, e9, Nat.le_trans hls4 h3, h1, fun e => by have := (HI.out.lt b9 e.symm).2; exact absurd (Nat.lt_of_lt_of_le this h3) (Nat.lt_irrefl _), h2⟩) ((Below.refl _ _).alloc (Nat.le_refl _) _)
      all_goals have hpush := LsInv.push (z := ⟨sl, A7, a7⟩) hI8 hfx hown8 hg8 ho8
      all_goals have hB8 : Below w1.heap.size w1 w8 := ((HB9.out.trans (h7.mono hls4)).alloc (Nat.le_trans hls4 hv7) (.cells #[.slice A7 sl.length a7] 31)).grown hg8 (by rw [World.size_alloc]; exact Nat.le_trans (Nat.le_trans hls4 hv7) (Nat.le_succ _)) (fun k e => (hI8.lt k e).1)
      all_goals have HFin := Lib.hid (And.intro hpush hB8)
      all_goals clear hpush hB8 hfx hown8 hg8 ho8 hI7 hI8 hA7 h7 f7
      all_goals go_wp2_with fail
      all_goals go_roundw
      all_goals first
        | exact ⟨i + 1, A8, c8, _, by omega, rfl, by go_num, Lib.hid (by rw [List.map_append, hD.out, HN.out]; rfl), Lib.hid HFin.out⟩
        | (simp [vInt]; done)
        | (simp [vInt]; omega)
    · have hil : ¬ (i : Int) < (s.length : Int) := by omega
      obtain rfl : i = s.length := by omega
      have hmk := make_int s.length (by omega)
      have hls0 : ls.map LsD.l = setL ⟨traits, cl.map CrdD.v, tl.map TreD.v, need⟩ s := by
        have h9 := hD.out
        rw [List.take_of_length_le (by rw [setL_len]; exact Nat.le_refl _)] at h9
        exact h9
      have HLI := Lib.hid hR.out.1
      have hBw := hR.out.2
      have ka := Blk.new wr (madeCells #[.int .i64 0] s.length) 3
      have ba := (Below.refl wr.heap.size wr).alloc (Nat.le_refl _) (.cells (madeCells #[.int .i64 0] s.length) 3)
      have hLL : (setL ⟨traits, cl.map CrdD.v, tl.map TreD.v, need⟩ s).length = s.length := setL_len _ _
      have HBW : Hid (∀ W, Below wr.heap.size wr W → Below w.heap.size w W) := Lib.hid (fun W hW => HB1.out.trans ((hBw.trans (hW.mono hBw.size)).mono HB1.out.size))
      have HKM2 : Hid (∀ W, Below wr.heap.size wr W → Blk W w.heap.size #[.int .i64 traits, .slice C cl.length c, .slice T tl.length t, .int .i64 need] 29) := Lib.hid (fun W hW => HKM.out W (hBw.trans (hW.mono hBw.size)))
      obtain ⟨P, hP⟩ : ∃ P : Nat → Bool, ∀ j, P j = (decide (1000 * need ≤ scoreM ⟨traits, cl.map CrdD.v, tl.map TreD.v, need⟩ (putV x s (vecD (setL ⟨traits, cl.map CrdD.v, tl.map TreD.v, need⟩ s) (digs (lens (setL ⟨traits, cl.map CrdD.v, tl.map TreD.v, need⟩ s)) j)) s.length)) != yes) := ⟨fun j => _, fun _ => rfl⟩
      have HSome : Hid (∀ q, q < nums (lens (setL ⟨traits, cl.map CrdD.v, tl.map TreD.v, need⟩ s)) → P q = true → (∀ j, j < q → P j = false) → othR ⟨traits, cl.map CrdD.v, tl.map TreD.v, need⟩ x s yes = some (vecD (setL ⟨traits, cl.map CrdD.v, tl.map TreD.v, need⟩ s) (digs (lens (setL ⟨traits, cl.map CrdD.v, tl.map TreD.v, need⟩ s)) q))) := Lib.hid (fun q hq h1 h2 => oth_some hq (by rw [← hP]; exact h1) (fun j hj => by rw [← hP]; exact h2 j hj))
      have HNone : Hid ((∀ j, j < nums (lens (setL ⟨traits, cl.map CrdD.v, tl.map TreD.v, need⟩ s)) → P j = false) → othR ⟨traits, cl.map CrdD.v, tl.map TreD.v, need⟩ x s yes = none) := Lib.hid (fun h2 => oth_none (fun j hj => by rw [← hP]; exact h2 j hj))
      have HP := Lib.hid hP
      clear hP hD hR HSL HSt
      generalize othR ⟨traits, cl.map CrdD.v, tl.map TreD.v, need⟩ x s yes = R at *
      generalize setL ⟨traits, cl.map CrdD.v, tl.map TreD.v, need⟩ s = L at *
      generalize hf : scoreM ⟨traits, cl.map CrdD.v, tl.map TreD.v, need⟩ = f at *
      have hnl : (lens L).length = s.length := by rw [lens_len]; exact hLL
      have hlsl : ls.length = s.length := by rw [← hLL, ← hls0, List.length_map]
      have HD2 : Hid (∀ q, q < nums (lens L) → ∀ i, i < s.length → ∃ (d n7 : Nat) (A7 : Option Addr) (a7 b off b2 off2 : Nat), A2 = some ⟨b, off, none⟩ ∧ A7 = some ⟨b2, off2, none⟩ ∧ b < wr.heap.size ∧ b2 < wr.heap.size ∧ wr.cell? ⟨b, off + i, none⟩ = some (.slice A7 n7 a7) ∧ wr.cell? ⟨b2, off2 + d, none⟩ = some (.int .i64 ((L.getD i []).getD d 0)) ∧ (dg (digs (lens L) q))[i]? = some (.int .i64 (d : Int)) ∧ d < n7) := Lib.hid (fun q hq i hi => by
        have hi1 : i < ls.length := by omega
        have hdl : i < (digs (lens L) q).length := by rw [digs_len]; omega
        have hd := digs_lt HPos.out hq i (by omega) hdl
        rw [lens_ls hls0 hi1] at hd
        obtain ⟨b, off, e1, _, hb, c0⟩ := HLI.out.outer hi1
        obtain ⟨b2, off2, e2, _, hb2, c1⟩ := HLI.out.inner hi1 hd
        refine ⟨_, _, _, _, b, off, b2, off2, e1, e2, hb, hb2, c0, ?_, dg_at hdl, hd⟩
        rw [getD_ls hls0 hi1, getD_lt _ _ hd]
        exact c1)
      have HO2 : Hid (∀ W, Below wr.heap.size wr W → ∀ i (h : i < (lens L).length), ∃ b off A a, A2 = some ⟨b, off, none⟩ ∧ b < W.heap.size ∧ b ≠ wr.heap.size ∧ W.cell? ⟨b, off + i, none⟩ = some (.slice A (lens L)[i] a)) := Lib.hid (fun W hW i h => by
        have hi1 : i < ls.length := by omega
        obtain ⟨b, off, e1, _, hb, c0⟩ := HLI.out.outer hi1
        refine ⟨b, off, ls[i].A, ls[i].a, e1, Nat.lt_of_lt_of_le hb hW.size, by omega, ?_⟩
        rw [lens_ls hls0 hi1]
        exact (hW.cell (p := ⟨b, off + i, none⟩) hb).trans c0)
      have HVd : Hid (∀ q, q < nums (lens L) → ∀ i, i < s.length → ∀ d : Nat, (dg (digs (lens L) q))[i]? = some (.int .i64 (d : Int)) → (vecD L (digs (lens L) q)).getD i 0 = (L.getD i []).getD d 0) := Lib.hid (fun q hq i hi d hd => by
        have hdl : i < (digs (lens L) q).length := by rw [digs_len]; omega
        rw [dg_at hdl] at hd
        have hd' : (digs (lens L) q).getD i 0 = d := by
          rw [getD_lt _ _ hdl]
          have := Option.some.inj hd
          simp at this
          omega
        unfold vecD
        rw [getD_lt _ _ (by simp; omega), List.getElem_map, List.getElem_range, hd'])
      go_upto_region 7 with fail
      have hmd : madeCells #[.int .i64 0] s.length = dg (digs (lens L) 0) := by rw [dg_made, digs_zero, hnl]
      generalize hW4 : wr.alloc (.cells (madeCells #[.int .i64 0] s.length) 3) = W4 at *
      rw [hmd] at ka
      clear hW4 hmk hls0 hlsl HLI hBw hmd hLI hB ls
      generalize wr.heap.size = ga at *
      generalize wr = wa at *
      go_wp2_with fail
      go_loopg [13] (nums (lens L) + 1) (fun k ff wr => ∃ (q : Nat) (b : Bool), ff = .bool b ∧ Hid (k + q = nums (lens L) + 1 ∧ b = decide (q = 0) ∧ q ≤ nums (lens L) ∧ ∀ j, j < q → P j = false) ∧ Hid (Below ga wa wr ∧ Blk wr ga (dg (digs (lens L) (q - 1))) 3))
      case atStart => exact ⟨0, true, rfl, Lib.hid ⟨rfl, rfl, Nat.zero_le _, fun j hj => by omega⟩, Lib.hid ⟨ba, ka⟩⟩
      case round =>
        clear ka ba
        obtain ⟨q, b, rfl, hQ, hS⟩ := hrel
        obtain ⟨hk, hb, hqL, hPj⟩ := hQ.out
        obtain ⟨h5B, k5a⟩ := hS.out
        have hk' := Lib.hid hk
        have HQL := Lib.hid hqL
        have HPJ := Lib.hid hPj
        clear hQ hS hk hPj hqL
        by_cases hq0 : q = 0
        · subst hq0
          obtain rfl : b = true := by rw [hb]; rfl
          clear hb
          have HQ0 : 0 < nums (lens L) := nums_pos HPos.out
          have kan := k5a
          have hBn := h5B
          clear k5a h5B
          go_upto_region 10 with fail
          generalize wr = w19 at *
          have hwW : ga ≤ w19.heap.size := Nat.le_of_lt kan.lt
          have bW := HBW.out w19 hBn
          have hE1 := own_empty w19 3 1 w19.heap.size (Nat.le_refl _)
          have D1 := (Below.refl w19.heap.size w19).alloc (Nat.le_refl _) (.cells #[] 3)
          have HX1 := Lib.hid ((HX.out w19 bW).later D1)
          have hgaW : ga < w19.heap.size := kan.lt
          clear bW
          go_upto_region 11 with (at_builtin; refine wpList_append_src _ rfl (.tmp 42) (.tmp 43) 31 rfl w19.heap.size 3 i0 _ 1 8 Tryz.underlying31 hi0 hy0 hy1 hy2 rfl (by decide) _ 0 [] rfl hE1 _ x.length xc (x.flatMap intC) rfl (by rw [flat_len intC_len]) (fun e => by cases e) (Flat.news intC_len (by decide) HX1.out) (flat_ones intC_one x) (by unfold maxLen; omega) (by omega) (by simp) ?_; intro v1 w20 hown1 hg1 _; rw [Nat.zero_add, List.nil_append] at hown1; obtain ⟨V, vc, rfl⟩ := own_slice hown1; have e20 : Below w19.heap.size w19 w20 := D1.grown hg1 D1.size (fun k e => (hE1.lt k e).1))
          obtain ⟨gv, rr, hvv, hBv, hlv⟩ := hown1.form (by omega)
          simp only [Value.slice.injEq, true_and] at hvv
          obtain ⟨rfl, rfl⟩ := hvv
          have HOV := Lib.hid hown1
          have HE20 := Lib.hid e20
          have HB20 := Lib.hid (hBn.trans (e20.mono hwW))
          have HKA := Lib.hid (kan.below e20 hgaW)
          have z20 := e20.size
          have hgv : ga ≠ gv := by omega
          clear hE1 D1 HX1 hg1 hown1 e20 kan hBn
          go_wp2_with fail
          go_loopw [15, 16] (fun oo ii wr => ∃ (i : Nat) (O : Option Addr) (oc : Nat), i ≤ s.length ∧ oo = .slice O i oc ∧ ii = .int .i64 i ∧ Hid (wr.ownsRow w19.heap.size 3 1 (.slice (some ⟨gv, 0, none⟩) x.length vc) x.length ((putV x s (vecD L (digs (lens L) 0)) i).flatMap intC) ∧ wr.ownsRow w19.heap.size 3 1 (.slice O i oc) i (((vecD L (digs (lens L) 0)).take i).flatMap intC) ∧ (∀ g, (Value.slice O i oc).ownBlock = some g → g ≠ gv) ∧ Below w19.heap.size w19 wr ∧ Below ga wa wr ∧ Blk wr ga (dg (digs (lens L) 0)) 3)) (fun _ ii _ => s.length - (vInt ii).toNat)
          case atStart => exact ⟨0, none, 0, Nat.zero_le _, rfl, rfl, Lib.hid ⟨HOV.out, World.ownsRow_nil _ _ _ _, (fun g hg => by cases hg), HE20.out, HB20.out, HKA.out⟩⟩
          case round =>
            obtain ⟨i, O, oc, hile, rfl, rfl, hR7⟩ := hrel
            obtain ⟨hV, hO, hdis, hBW, hBa, hka⟩ := hR7.out
            clear hR7
            have hudl : (vecD L (digs (lens L) 0)).length = s.length := by rw [vecD_len]; exact hLL
            by_cases hlt : i < s.length
            · have hil : (i : Int) < (s.length : Int) := by omega
              obtain ⟨k, hk1, hk2⟩ := Hsx.out i hlt
              have hki : (k : Int) < (x.length : Int) := by omega
              obtain ⟨d, n7, A7, a7, b, off, b2, off2, hA2, hA7, hb1, hb2, m0, m1, c2, hdn⟩ := HD2.out 0 HQ0 i hlt
              have c0 := (hBa.cell (p := ⟨b, off + i, none⟩) hb1).trans m0
              have c1 := (hBa.cell (p := ⟨b2, off2 + d, none⟩) hb2).trans m1
              have hdn' : (d : Int) < (n7 : Int) := by omega
              have a0 := (hka.cell i).trans c2
              have bwr := HBW.out wr hBa
              obtain ⟨b9, o9, rfl, hb9, c9⟩ := ints_at (HSA.out wr bwr) hlt
              have hsk : s[i] = (k : Int) := by rw [← getD_lt s 0 hlt]; exact hk1
              rw [hsk] at c9
              obtain ⟨cv, fv, hV2⟩ := cell_setZ hV (putV_len _ _ _ _) hk2 ((L.getD i []).getD d 0)
              have HUI : Hid ((vecD L (digs (lens L) 0)).getD i 0 = (L.getD i []).getD d 0) := Lib.hid (HVd.out 0 HQ0 i hlt d c2)
              have HK1 := Lib.hid hk1
              have HV := Lib.hid hV
              have HO := Lib.hid hO
              have HD := Lib.hid hdis
              have HQB := Lib.hid (And.intro hBW hBa)
              have HKA2 := Lib.hid hka
              have HC2 := Lib.hid c2
              have zr := hBa.size
              have hgr : gv < wr.heap.size := (hV.lt gv rfl).2
              generalize (L.getD i []).getD d 0 = xv at *
              clear hdn c2 hk1 hsk hV hO hdis hBW hBa hka hV2 bwr
              subst hA2
              subst hA7
              go_upto_region 15 with fail
              go_region
              have hw21 : Below ga wa (wr.setCell ⟨gv, k, none⟩ (.int .i64 xv)).drew := ((HQB.out.2).setCell (p := ⟨gv, k, none⟩) (by show ga ≤ gv; omega) _).drew
              have hx21 : Below w19.heap.size w19 (wr.setCell ⟨gv, k, none⟩ (.int .i64 xv)).drew := ((HQB.out.1).setCell (p := ⟨gv, k, none⟩) hBv _).drew
              have hv21 := own_drew (cell_setZ HV.out (putV_len _ _ _ _) hk2 xv).2.2
              have ho21 := own_drew (ownsRow_setCell_other HO.out (a := ⟨gv, k, none⟩) (fun e => HD.out gv e rfl) (.int .i64 xv))
              have hka21 : Blk (wr.setCell ⟨gv, k, none⟩ (.int .i64 xv)).drew ga (dg (digs (lens L) 0)) 3 := (HKA2.out.far (p := ⟨gv, k, none⟩) hgv _).drew
              have hgr21 : gv < (wr.setCell ⟨gv, k, none⟩ (.int .i64 xv)).drew.heap.size := (hv21.lt gv rfl).2
              generalize hW21 : (wr.setCell ⟨gv, k, none⟩ (.int .i64 xv)).drew = w21 at *
              have d0 := (hw21.cell (p := ⟨b, off + i, none⟩) hb1).trans m0
              have d1 := (hw21.cell (p := ⟨b2, off2 + d, none⟩) hb2).trans m1
              have d2 := (hka21.cell i).trans HC2.out
              have bn := ((Below.refl w21.heap.size w21).alloc (Nat.le_refl _) (.cells #[.int .i64 xv] 3)).drew
              have hoX := own_below ho21 bn
              have hvX := own_below hv21 bn
              have E1 := hx21.trans (bn.mono hx21.size)
              have hga21 : ga ≤ w21.heap.size := by omega
              have E2 := hw21.trans (bn.mono hga21)
              have hga22 := Nat.le_trans hga21 bn.size
              have HNW := Lib.hid (int_newZ w21 (.int .i64 xv) 3)
              clear hW21 c0 c1 a0 c9 cv fv m0 m1 ho21 hv21
              go_upto_region 16 with fail
              go_region_law (first
                | (refine step_append_src (by rfl) _ _ _ (by rfl) w19.heap.size 3 i0 _ 1 8 Tryz.underlying31 hi0 hy0 hy1 hy2 rfl (by decide) _ i (((vecD L (digs (lens L) 0)).take i).flatMap intC) (by rfl) hoX (some ⟨w21.heap.size, 0, none⟩) 1 1 [.int .i64 xv] (by rfl) (by rfl) (fun e => by cases e) HNW.out (intC_one xv) (by unfold maxLen; omega) (by omega) E1.size ?_; intro v22 w22 hown22 hg22 hk22; obtain ⟨O2, oc2, rfl⟩ := own_slice hown22))
              all_goals have HFin : Hid (w22.ownsRow w19.heap.size 3 1 (.slice (some ⟨gv, 0, none⟩) x.length vc) x.length ((putV x s (vecD L (digs (lens L) 0)) (i + 1)).flatMap intC) ∧ w22.ownsRow w19.heap.size 3 1 (.slice O2 (i + 1) oc2) (i + 1) (((vecD L (digs (lens L) 0)).take (i + 1)).flatMap intC) ∧ (∀ g, (Value.slice O2 (i + 1) oc2).ownBlock = some g → g ≠ gv) ∧ Below w19.heap.size w19 w22 ∧ Below ga wa w22 ∧ Blk w22 ga (dg (digs (lens L) 0)) 3) := Lib.hid ⟨by
                  have h8 := own_besideZ hvX hg22 (fun g hg e => HD.out g hg (Option.some.inj e).symm)
                  rw [putV, HK1.out, Int.toNat_natCast, HUI.out]
                  exact h8, by
                  rw [List.take_succ_eq_append_getElem (by omega), List.flatMap_append, ← getD_lt _ 0 (by omega), HUI.out]
                  exact hown22, fun g hg => by
                  rcases hk22 with e | e
                  · rw [e] at hg; exact HD.out g hg
                  · rw [e] at hg
                    have h8 := Option.some.inj hg
                    have h9 := bn.size
                    omega, E1.grown hg22 E1.size (fun k e => (hoX.lt k e).1), E2.grown hg22 hga22 (fun k e => Nat.le_trans hwW (hoX.lt k e).1), (hka21.below bn hka21.lt).grown hg22 (fun e => by
                    have h8 := (hoX.lt ga e.symm).1
                    omega)⟩
              all_goals clear hown22 hg22 hk22 hoX hvX E1 E2 bn hka21 hw21 hx21 d0 d1 d2
              all_goals go_wp2_with fail
              all_goals go_roundw
              all_goals first
                | exact ⟨i + 1, O2, oc2, by omega, rfl, by go_num, HFin⟩
                | (simp [vInt]; done)
                | (simp [vInt]; omega)
            · have hil : ¬ (i : Int) < (s.length : Int) := by omega
              obtain rfl : i = s.length := by omega
              have hfull : (vecD L (digs (lens L) 0)).take s.length = vecD L (digs (lens L) 0) := List.take_of_length_le (by omega)
              rw [hfull] at hO
              have sV : IntsAt wr wr.heap.size (some ⟨gv, 0, none⟩) (putV x s (vecD L (digs (lens L) 0)) s.length) := Flat.of_own (c := vc) intC_len (by decide) (by rw [putV_len]; exact hV)
              have sO : IntsAt wr wr.heap.size O (vecD L (digs (lens L) 0)) := Flat.of_own (c := oc) intC_len (by decide) (by rw [hudl]; exact hO)
              have bwr := HBW.out wr hBa
              have HS : Hid (∀ z : After wr.heap.size wr, Calls Tryz.prog 65 #[.agg #[.int .i64 traits, .slice C cl.length c, .slice T tl.length t, .int .i64 need], .slice (some ⟨gv, 0, none⟩) x.length vc] z.val fun e w' => e = .returned (.int .i64 (f (putV x s (vecD L (digs (lens L) 0)) s.length))) ∧ Below z.val.heap.size z.val w') := Lib.hid (fun z => by
                have h8 := HSco.out z.val (bwr.trans (z.property.mono bwr.size)) _ vc _ (sV.later z.property) (putV_len _ _ _ _)
                rw [putV_len] at h8
                exact h8)
              have HPQ := Lib.hid (HP.out 0)
              have kmA := After.cells (B := wr.heap.size) (HKM2.out wr hBa).cell (HKM2.out wr hBa).lt
              have HSO := Lib.hid sO
              have HUL := Lib.hid hudl
              have HBA := Lib.hid hBa
              have HKAA := Lib.hid hka
              clear hV hO hdis hBW hka sV sO hfull hudl hBa
              generalize f (putV x s (vecD L (digs (lens L) 0)) s.length) = n at *
              obtain ⟨pd, hpd⟩ : ∃ pd, decide (1000 * need ≤ n) = pd := ⟨_, rfl⟩
              rw [hpd] at HPQ
              cases hpq : (!(pd == yes)) with
              | true =>
                have HR : Hid (R = some (vecD L (digs (lens L) 0))) := Lib.hid (HSome.out 0 HQ0 (by rw [HPQ.out]; exact hpq) (fun j hj => HPJ.out j hj))
                clear HPQ
                go_upto_region 17 with fail
                refine wp_region_class_lit (C := fun w' => ∃ z : After wr.heap.size wr, w' = z.val) (by kernel_rfl) (by kernel_rfl) ⟨⟨_, (Below.refl _ _).drew⟩, rfl⟩ ?_
                repeat (go_big_quiet_step ((first
                  | (go_at_call 65; with_reducible exact after_of (Nat.le_refl _) _ (HS.out _)))))
                refine wpQuiet_nil ?_
                intro wz0 hw'
                obtain ⟨⟨wz, hz⟩, hw''⟩ := hw'
                dsimp only at hw''
                subst hw''
                go_wp2_with fail
                show bodyPost _ _ _ _ _ _
                have hul := HUL.out
                exact bodyPost_ret (v := .tuple #[.slice O s.length oc, .bool true]) (by simp [results, Tryz.results40, go_sem]) rfl ⟨O, oc, by rw [HR.out]; simp only [Option.getD_some, Option.isSome_some]; rw [hul], by rw [HR.out]; exact HSO.out.later hz, bwr.trans (hz.mono bwr.size)⟩
              | false =>
                have HJ : Hid (∀ j, j < 0 + 1 → P j = false) := Lib.hid (fun j hj => by
                  rcases Nat.lt_or_ge j (0) with h9 | h9
                  · exact HPJ.out j h9
                  · obtain rfl : j = 0 := by omega
                    rw [HPQ.out]; exact hpq)
                clear HPQ
                go_upto_region 17 with fail
                refine wp_region_class_lit (C := fun w' => ∃ z : After wr.heap.size wr, w' = z.val) (by kernel_rfl) (by kernel_rfl) ⟨⟨_, (Below.refl _ _).drew⟩, rfl⟩ ?_
                repeat (go_big_quiet_step ((first
                  | (go_at_call 65; with_reducible exact after_of (Nat.le_refl _) _ (HS.out _)))))
                refine wpQuiet_nil ?_
                intro wz0 hw'
                obtain ⟨⟨wz, hz⟩, hw''⟩ := hw'
                dsimp only at hw''
                subst hw''
                have HFZ : Hid (Below ga wa wz0 ∧ Blk wz0 ga (dg (digs (lens L) 0)) 3) := Lib.hid ⟨HBA.out.trans (hz.mono (by have := HKAA.out.lt; omega)), HKAA.out.below hz HKAA.out.lt⟩
                go_wp2_with fail
                go_roundg (gk - 1)
                all_goals first
                  | exact ⟨0 + 1, false, rfl, Lib.hid ⟨by have := hk'.out; omega, by simp, HQ0, HJ.out⟩, HFZ⟩
                  | (have := hk'.out; omega)
        · obtain rfl : b = false := by rw [hb]; exact decide_eq_false hq0
          clear hb
          have hqle := HQL.out
          have HNX : Hid (Calls Tryz.prog 66 #[.slice (some ⟨ga, 0, none⟩) s.length s.length, .slice A2 s.length c2] wr (NextS wr ga 3 (lens L) (digs (lens L) (q - 1)))) := Lib.hid (by
            have := next6_any ga 3 (lens L) (digs (lens L) (q - 1)) A2 s.length c2 wr (digs_len _ _).symm (by rw [digs_len]; omega) (fun k hk => by
              obtain ⟨j, hj, rfl⟩ := List.getElem_of_mem hk
              have hj2 : j < (lens L).length := by rw [digs_len] at hj; exact hj
              have h1 := digs_lt HPos.out (show q - 1 < nums (lens L) by omega) j hj2 hj
              have h2 := HLen.out _ (List.getElem_mem hj2)
              omega) k5a (HO2.out wr h5B)
            rw [digs_len, hnl] at this
            exact this)
          by_cases hqn : q = nums (lens L)
          · have HND : Hid (nextD (lens L) (digs (lens L) (q - 1)) = (false, digs (lens L) 0)) := Lib.hid (by rw [hqn]; exact nextD_last _ HPos.out)
            have HR : Hid (R = none) := Lib.hid (HNone.out (fun j hj => HPJ.out j (by omega)))
            have HB5 := Lib.hid h5B
            clear k5a h5B hqn hqle
            go_wp2_with (go_at_call 66; (with_reducible refine (HNX.out).mono ?_); rintro e w9 ⟨bb, d9, rfl, hnx, kz, hK, h9B⟩; rw [HND.out] at hnx; obtain ⟨rfl, rfl⟩ := Prod.mk.inj hnx; have hB9 := HB5.out.trans h9B)
            show bodyPost _ _ _ _ _ _
            exact bodyPost_ret (v := .tuple #[.slice none 0 0, .bool false]) (by simp [results, Tryz.results40, go_sem]) rfl ⟨none, 0, by rw [HR.out]; rfl, by rw [HR.out]; exact fun k hk => absurd hk (Nat.not_lt_zero _), HBW.out w9 hB9⟩
          · have HQ0 : q < nums (lens L) := by omega
            have HND : Hid (nextD (lens L) (digs (lens L) (q - 1)) = (true, digs (lens L) q)) := Lib.hid (by
              have := nextD_step (lens L) HPos.out (q - 1) (by omega)
              rw [show q - 1 + 1 = q by omega] at this
              exact this)
            have HB5 := Lib.hid h5B
            clear k5a h5B hqn hqle
            go_upto_region 10 with (go_at_call 66; (with_reducible refine (HNX.out).mono ?_); rintro e w19 ⟨bb, d9, rfl, hnx, kan, hK, h9B⟩; rw [HND.out] at hnx; obtain ⟨rfl, rfl⟩ := Prod.mk.inj hnx; have hBn := HB5.out.trans h9B)
            clear hK h9B hnx
            have hwW : ga ≤ w19.heap.size := Nat.le_of_lt kan.lt
            have bW := HBW.out w19 hBn
            have hE1 := own_empty w19 3 1 w19.heap.size (Nat.le_refl _)
            have D1 := (Below.refl w19.heap.size w19).alloc (Nat.le_refl _) (.cells #[] 3)
            have HX1 := Lib.hid ((HX.out w19 bW).later D1)
            have hgaW : ga < w19.heap.size := kan.lt
            clear bW
            go_upto_region 11 with (at_builtin; refine wpList_append_src _ rfl (.tmp 42) (.tmp 43) 31 rfl w19.heap.size 3 i0 _ 1 8 Tryz.underlying31 hi0 hy0 hy1 hy2 rfl (by decide) _ 0 [] rfl hE1 _ x.length xc (x.flatMap intC) rfl (by rw [flat_len intC_len]) (fun e => by cases e) (Flat.news intC_len (by decide) HX1.out) (flat_ones intC_one x) (by unfold maxLen; omega) (by omega) (by simp) ?_; intro v1 w20 hown1 hg1 _; rw [Nat.zero_add, List.nil_append] at hown1; obtain ⟨V, vc, rfl⟩ := own_slice hown1; have e20 : Below w19.heap.size w19 w20 := D1.grown hg1 D1.size (fun k e => (hE1.lt k e).1))
            obtain ⟨gv, rr, hvv, hBv, hlv⟩ := hown1.form (by omega)
            simp only [Value.slice.injEq, true_and] at hvv
            obtain ⟨rfl, rfl⟩ := hvv
            have HOV := Lib.hid hown1
            have HE20 := Lib.hid e20
            have HB20 := Lib.hid (hBn.trans (e20.mono hwW))
            have HKA := Lib.hid (kan.below e20 hgaW)
            have z20 := e20.size
            have hgv : ga ≠ gv := by omega
            clear hE1 D1 HX1 hg1 hown1 e20 kan hBn
            go_wp2_with fail
            go_loopw [15, 16] (fun oo ii wr => ∃ (i : Nat) (O : Option Addr) (oc : Nat), i ≤ s.length ∧ oo = .slice O i oc ∧ ii = .int .i64 i ∧ Hid (wr.ownsRow w19.heap.size 3 1 (.slice (some ⟨gv, 0, none⟩) x.length vc) x.length ((putV x s (vecD L (digs (lens L) q)) i).flatMap intC) ∧ wr.ownsRow w19.heap.size 3 1 (.slice O i oc) i (((vecD L (digs (lens L) q)).take i).flatMap intC) ∧ (∀ g, (Value.slice O i oc).ownBlock = some g → g ≠ gv) ∧ Below w19.heap.size w19 wr ∧ Below ga wa wr ∧ Blk wr ga (dg (digs (lens L) q)) 3)) (fun _ ii _ => s.length - (vInt ii).toNat)
            case atStart => exact ⟨0, none, 0, Nat.zero_le _, rfl, rfl, Lib.hid ⟨HOV.out, World.ownsRow_nil _ _ _ _, (fun g hg => by cases hg), HE20.out, HB20.out, HKA.out⟩⟩
            case round =>
              obtain ⟨i, O, oc, hile, rfl, rfl, hR7⟩ := hrel
              obtain ⟨hV, hO, hdis, hBW, hBa, hka⟩ := hR7.out
              clear hR7
              have hudl : (vecD L (digs (lens L) q)).length = s.length := by rw [vecD_len]; exact hLL
              by_cases hlt : i < s.length
              · have hil : (i : Int) < (s.length : Int) := by omega
                obtain ⟨k, hk1, hk2⟩ := Hsx.out i hlt
                have hki : (k : Int) < (x.length : Int) := by omega
                obtain ⟨d, n7, A7, a7, b, off, b2, off2, hA2, hA7, hb1, hb2, m0, m1, c2, hdn⟩ := HD2.out q HQ0 i hlt
                have c0 := (hBa.cell (p := ⟨b, off + i, none⟩) hb1).trans m0
                have c1 := (hBa.cell (p := ⟨b2, off2 + d, none⟩) hb2).trans m1
                have hdn' : (d : Int) < (n7 : Int) := by omega
                have a0 := (hka.cell i).trans c2
                have bwr := HBW.out wr hBa
                obtain ⟨b9, o9, rfl, hb9, c9⟩ := ints_at (HSA.out wr bwr) hlt
                have hsk : s[i] = (k : Int) := by rw [← getD_lt s 0 hlt]; exact hk1
                rw [hsk] at c9
                obtain ⟨cv, fv, hV2⟩ := cell_setZ hV (putV_len _ _ _ _) hk2 ((L.getD i []).getD d 0)
                have HUI : Hid ((vecD L (digs (lens L) q)).getD i 0 = (L.getD i []).getD d 0) := Lib.hid (HVd.out q HQ0 i hlt d c2)
                have HK1 := Lib.hid hk1
                have HV := Lib.hid hV
                have HO := Lib.hid hO
                have HD := Lib.hid hdis
                have HQB := Lib.hid (And.intro hBW hBa)
                have HKA2 := Lib.hid hka
                have HC2 := Lib.hid c2
                have zr := hBa.size
                have hgr : gv < wr.heap.size := (hV.lt gv rfl).2
                generalize (L.getD i []).getD d 0 = xv at *
                clear hdn c2 hk1 hsk hV hO hdis hBW hBa hka hV2 bwr
                subst hA2
                subst hA7
                go_upto_region 15 with fail
                go_region
                have hw21 : Below ga wa (wr.setCell ⟨gv, k, none⟩ (.int .i64 xv)).drew := ((HQB.out.2).setCell (p := ⟨gv, k, none⟩) (by show ga ≤ gv; omega) _).drew
                have hx21 : Below w19.heap.size w19 (wr.setCell ⟨gv, k, none⟩ (.int .i64 xv)).drew := ((HQB.out.1).setCell (p := ⟨gv, k, none⟩) hBv _).drew
                have hv21 := own_drew (cell_setZ HV.out (putV_len _ _ _ _) hk2 xv).2.2
                have ho21 := own_drew (ownsRow_setCell_other HO.out (a := ⟨gv, k, none⟩) (fun e => HD.out gv e rfl) (.int .i64 xv))
                have hka21 : Blk (wr.setCell ⟨gv, k, none⟩ (.int .i64 xv)).drew ga (dg (digs (lens L) q)) 3 := (HKA2.out.far (p := ⟨gv, k, none⟩) hgv _).drew
                have hgr21 : gv < (wr.setCell ⟨gv, k, none⟩ (.int .i64 xv)).drew.heap.size := (hv21.lt gv rfl).2
                generalize hW21 : (wr.setCell ⟨gv, k, none⟩ (.int .i64 xv)).drew = w21 at *
                have d0 := (hw21.cell (p := ⟨b, off + i, none⟩) hb1).trans m0
                have d1 := (hw21.cell (p := ⟨b2, off2 + d, none⟩) hb2).trans m1
                have d2 := (hka21.cell i).trans HC2.out
                have bn := ((Below.refl w21.heap.size w21).alloc (Nat.le_refl _) (.cells #[.int .i64 xv] 3)).drew
                have hoX := own_below ho21 bn
                have hvX := own_below hv21 bn
                have E1 := hx21.trans (bn.mono hx21.size)
                have hga21 : ga ≤ w21.heap.size := by omega
                have E2 := hw21.trans (bn.mono hga21)
                have hga22 := Nat.le_trans hga21 bn.size
                have HNW := Lib.hid (int_newZ w21 (.int .i64 xv) 3)
                clear hW21 c0 c1 a0 c9 cv fv m0 m1 ho21 hv21
                go_upto_region 16 with fail
                go_region_law (first
                  | (refine step_append_src (by rfl) _ _ _ (by rfl) w19.heap.size 3 i0 _ 1 8 Tryz.underlying31 hi0 hy0 hy1 hy2 rfl (by decide) _ i (((vecD L (digs (lens L) q)).take i).flatMap intC) (by rfl) hoX (some ⟨w21.heap.size, 0, none⟩) 1 1 [.int .i64 xv] (by rfl) (by rfl) (fun e => by cases e) HNW.out (intC_one xv) (by unfold maxLen; omega) (by omega) E1.size ?_; intro v22 w22 hown22 hg22 hk22; obtain ⟨O2, oc2, rfl⟩ := own_slice hown22))
                all_goals have HFin : Hid (w22.ownsRow w19.heap.size 3 1 (.slice (some ⟨gv, 0, none⟩) x.length vc) x.length ((putV x s (vecD L (digs (lens L) q)) (i + 1)).flatMap intC) ∧ w22.ownsRow w19.heap.size 3 1 (.slice O2 (i + 1) oc2) (i + 1) (((vecD L (digs (lens L) q)).take (i + 1)).flatMap intC) ∧ (∀ g, (Value.slice O2 (i + 1) oc2).ownBlock = some g → g ≠ gv) ∧ Below w19.heap.size w19 w22 ∧ Below ga wa w22 ∧ Blk w22 ga (dg (digs (lens L) q)) 3) := Lib.hid ⟨by
                    have h8 := own_besideZ hvX hg22 (fun g hg e => HD.out g hg (Option.some.inj e).symm)
                    rw [putV, HK1.out, Int.toNat_natCast, HUI.out]
                    exact h8, by
                    rw [List.take_succ_eq_append_getElem (by omega), List.flatMap_append, ← getD_lt _ 0 (by omega), HUI.out]
                    exact hown22, fun g hg => by
                    rcases hk22 with e | e
                    · rw [e] at hg; exact HD.out g hg
                    · rw [e] at hg
                      have h8 := Option.some.inj hg
                      have h9 := bn.size
                      omega, E1.grown hg22 E1.size (fun k e => (hoX.lt k e).1), E2.grown hg22 hga22 (fun k e => Nat.le_trans hwW (hoX.lt k e).1), (hka21.below bn hka21.lt).grown hg22 (fun e => by
                      have h8 := (hoX.lt ga e.symm).1
                      omega)⟩
                all_goals clear hown22 hg22 hk22 hoX hvX E1 E2 bn hka21 hw21 hx21 d0 d1 d2
                all_goals go_wp2_with fail
                all_goals go_roundw
                all_goals first
                  | exact ⟨i + 1, O2, oc2, by omega, rfl, by go_num, HFin⟩
                  | (simp [vInt]; done)
                  | (simp [vInt]; omega)
              · have hil : ¬ (i : Int) < (s.length : Int) := by omega
                obtain rfl : i = s.length := by omega
                have hfull : (vecD L (digs (lens L) q)).take s.length = vecD L (digs (lens L) q) := List.take_of_length_le (by omega)
                rw [hfull] at hO
                have sV : IntsAt wr wr.heap.size (some ⟨gv, 0, none⟩) (putV x s (vecD L (digs (lens L) q)) s.length) := Flat.of_own (c := vc) intC_len (by decide) (by rw [putV_len]; exact hV)
                have sO : IntsAt wr wr.heap.size O (vecD L (digs (lens L) q)) := Flat.of_own (c := oc) intC_len (by decide) (by rw [hudl]; exact hO)
                have bwr := HBW.out wr hBa
                have HS : Hid (∀ z : After wr.heap.size wr, Calls Tryz.prog 65 #[.agg #[.int .i64 traits, .slice C cl.length c, .slice T tl.length t, .int .i64 need], .slice (some ⟨gv, 0, none⟩) x.length vc] z.val fun e w' => e = .returned (.int .i64 (f (putV x s (vecD L (digs (lens L) q)) s.length))) ∧ Below z.val.heap.size z.val w') := Lib.hid (fun z => by
                  have h8 := HSco.out z.val (bwr.trans (z.property.mono bwr.size)) _ vc _ (sV.later z.property) (putV_len _ _ _ _)
                  rw [putV_len] at h8
                  exact h8)
                have HPQ := Lib.hid (HP.out q)
                have kmA := After.cells (B := wr.heap.size) (HKM2.out wr hBa).cell (HKM2.out wr hBa).lt
                have HSO := Lib.hid sO
                have HUL := Lib.hid hudl
                have HBA := Lib.hid hBa
                have HKAA := Lib.hid hka
                clear hV hO hdis hBW hka sV sO hfull hudl hBa
                generalize f (putV x s (vecD L (digs (lens L) q)) s.length) = n at *
                obtain ⟨pd, hpd⟩ : ∃ pd, decide (1000 * need ≤ n) = pd := ⟨_, rfl⟩
                rw [hpd] at HPQ
                cases hpq : (!(pd == yes)) with
                | true =>
                  have HR : Hid (R = some (vecD L (digs (lens L) q))) := Lib.hid (HSome.out q HQ0 (by rw [HPQ.out]; exact hpq) (fun j hj => HPJ.out j hj))
                  clear HPQ
                  go_upto_region 17 with fail
                  refine wp_region_class_lit (C := fun w' => ∃ z : After wr.heap.size wr, w' = z.val) (by kernel_rfl) (by kernel_rfl) ⟨⟨_, (Below.refl _ _).drew⟩, rfl⟩ ?_
                  repeat (go_big_quiet_step ((first
                    | (go_at_call 65; with_reducible exact after_of (Nat.le_refl _) _ (HS.out _)))))
                  refine wpQuiet_nil ?_
                  intro wz0 hw'
                  obtain ⟨⟨wz, hz⟩, hw''⟩ := hw'
                  dsimp only at hw''
                  subst hw''
                  go_wp2_with fail
                  show bodyPost _ _ _ _ _ _
                  have hul := HUL.out
                  exact bodyPost_ret (v := .tuple #[.slice O s.length oc, .bool true]) (by simp [results, Tryz.results40, go_sem]) rfl ⟨O, oc, by rw [HR.out]; simp only [Option.getD_some, Option.isSome_some]; rw [hul], by rw [HR.out]; exact HSO.out.later hz, bwr.trans (hz.mono bwr.size)⟩
                | false =>
                  have HJ : Hid (∀ j, j < q + 1 → P j = false) := Lib.hid (fun j hj => by
                    rcases Nat.lt_or_ge j (q) with h9 | h9
                    · exact HPJ.out j h9
                    · obtain rfl : j = q := by omega
                      rw [HPQ.out]; exact hpq)
                  clear HPQ
                  go_upto_region 17 with fail
                  refine wp_region_class_lit (C := fun w' => ∃ z : After wr.heap.size wr, w' = z.val) (by kernel_rfl) (by kernel_rfl) ⟨⟨_, (Below.refl _ _).drew⟩, rfl⟩ ?_
                  repeat (go_big_quiet_step ((first
                    | (go_at_call 65; with_reducible exact after_of (Nat.le_refl _) _ (HS.out _)))))
                  refine wpQuiet_nil ?_
                  intro wz0 hw'
                  obtain ⟨⟨wz, hz⟩, hw''⟩ := hw'
                  dsimp only at hw''
                  subst hw''
                  have HFZ : Hid (Below ga wa wz0 ∧ Blk wz0 ga (dg (digs (lens L) q)) 3) := Lib.hid ⟨HBA.out.trans (hz.mono (by have := HKAA.out.lt; omega)), HKAA.out.below hz HKAA.out.lt⟩
                  go_wp2_with fail
                  go_roundg (gk - 1)
                  all_goals first
                    | exact ⟨q + 1, false, rfl, Lib.hid ⟨by have := hk'.out; omega, by simp, HQ0, HJ.out⟩, HFZ⟩
                    | (have := hk'.out; omega)
end Go.Proofs.YtkimojiakabbcaaGreat

namespace Go.Proofs.YtkimojiakabbcaaGreat
open Go.RowKit Go.Maps

/-- One more set, by the reference. -/
def stepB (g : List Int → Option (List Int)) (l : List Int) : Option (List Int × List Int) → Option (List Int × List Int)
  | none => (g l).map (Prod.mk l)
  | some (s, v) => if s.length < l.length then some (s, v) else if l.length < s.length then (match g l with | none => some (s, v) | some u => some (l, u)) else if cmpL l s < 0 then (match g l with | none => some (s, v) | some u => some (l, u)) else some (s, v)
/-- The first of the first n sets but the empty one, by the reference. -/
def bestB (g : List Int → Option (List Int)) (T : Nat) : Nat → Option (List Int × List Int)
  | 0 => none
  | n + 1 => stepB g (setB (n + 1) T) (bestB g T n)
theorem setB_ne {n T : Nat} (h0 : 0 < n) (h : n < 2 ^ T) : setB n T ≠ [] := fun e => by
  have h1 : setB 0 T = [] := by
    unfold setB
    rw [List.filter_eq_nil_iff.2 (fun k _ => by unfold bitN; simp)]
    rfl
  have := setB_inj (T := T) h (Nat.two_pow_pos T) (e.trans h1.symm)
  omega
theorem stepB_some (g : List Int → Option (List Int)) (l s v : List Int) : stepB g l (some (s, v)) = if s.length < l.length then some (s, v) else if l.length < s.length then (match g l with | none => some (s, v) | some u => some (l, u)) else if cmpL l s < 0 then (match g l with | none => some (s, v) | some u => some (l, u)) else some (s, v) := rfl
def LoopS (o : Option (List Int × List Int)) (A : Option Addr) (s v : List Int) : Prop := (o = none ∧ A = none ∧ s = [] ∧ v = []) ∨ (o = some (s, v) ∧ ∃ a, A = some a)
/-- What the reference's Reasons answers. -/
def RefS (w : World) (o : Option (List Int × List Int)) (e : Ending) (w' : World) : Prop :=
  Below w.heap.size w w' ∧ ∃ (A : Option Addr) (a : Nat) (B : Option Addr) (b : Nat), e = .returned (.tuple #[.slice A ((o.map Prod.fst).getD []).length a, .slice B ((o.map Prod.snd).getD []).length b, .int .i64 (if o.isNone = true then 6 else 0)]) ∧ IntsAt w' w'.heap.size A ((o.map Prod.fst).getD []) ∧ IntsAt w' w'.heap.size B ((o.map Prod.snd).getD [])
set_option maxRecDepth 100000 in
set_option maxHeartbeats 16000000 in
theorem reasonsR_good (N : Nat) (need : Int) (cl : List CrdD) (tl : List TreD) (C T : Option Addr) (c t : Nat) (x : List Int) (X : Option Addr) (xc : Nat) (w : World) (sc : Int) (yes : Bool) (g : List Int → Option (List Int)) (hN : N ≤ 5)
    (HSc : Hid (∀ W, Below w.heap.size w W → Calls Tryz.prog 37 #[.agg #[.int .i64 (N : Int), .slice C cl.length c, .slice T tl.length t, .int .i64 need], .slice X x.length xc] W fun e w' => e = .returned (.tuple #[.int .i64 sc, .bool yes, .int .i64 0]) ∧ Below W.heap.size W w'))
    (HOt : Hid (∀ W, Below w.heap.size w W → ∀ b SA k, b < 2 ^ N → IntsAt W W.heap.size SA (setB b N) → Calls Tryz.prog 40 #[.agg #[.int .i64 (N : Int), .slice C cl.length c, .slice T tl.length t, .int .i64 need], .slice X x.length xc, .slice SA (setB b N).length k, .bool yes] W (OthS W (g (setB b N))))) :
    Calls Tryz.prog 22 #[.agg #[.int .i64 (N : Int), .slice C cl.length c, .slice T tl.length t, .int .i64 need], .slice X x.length xc] w (RefS w (bestB g N (2 ^ N - 1))) := by
  have b1 := (Below.refl w.heap.size w).alloc (Nat.le_refl _) (.cells #[.int .i64 (N : Int), .slice C cl.length c, .slice T tl.length t, .int .i64 need] 29)
  have k1 := Blk.new w #[.int .i64 (N : Int), .slice C cl.length c, .slice T tl.length t, .int .i64 need] 29
  have k1c := k1.cell
  have hshl := shl_pow N hN
  obtain ⟨hN1, hN2⟩ := pow_le N hN
  have HE : Hid (∀ n l, l = setB n N → l.length ≤ 5) := Lib.hid (fun n l e => by subst e; have := setB_len n N; omega)
  have HNE : Hid (∀ n, 0 < n → n < 2 ^ N → setB n N ≠ []) := Lib.hid (fun n h1 h2 => setB_ne h1 h2)
  go_enter Tryz.func22, Tryz.ntmps22
  go_wp2_with (go_at_call 37; (with_reducible refine (HSc.out _ b1).mono ?_); rintro e w5 ⟨rfl, h5⟩; have b5 := b1.trans (h5.mono b1.size); have k5 := k1.below h5 k1.lt)
  clear k1 k1c h5 b1 HSc
  have HB5 := Lib.hid b5
  have gm := k5.lt
  generalize hNN : 2 ^ N = NN at *
  have HK5 : Hid (∀ W, Below w5.heap.size w5 W → Blk W w.heap.size #[.int .i64 (N : Int), .slice C cl.length c, .slice T tl.length t, .int .i64 need] 29) := Lib.hid (fun W hW => k5.below hW gm)
  clear b5 k5
  go_loopw [10, 11, 12] (fun aa vv ii wr => ∃ (n : Nat) (A : Option Addr) (ac : Nat) (B : Option Addr) (bc : Nat) (s v : List Int), n < NN ∧ aa = .slice A s.length ac ∧ vv = .slice B v.length bc ∧ ii = .int .i64 ((n : Int) + 1) ∧ Hid (LoopS (bestB g N n) A s v) ∧ Hid (s.length ≤ 5 ∧ IntsAt wr wr.heap.size A s ∧ IntsAt wr wr.heap.size B v ∧ Below w5.heap.size w5 wr)) (fun _ _ ii _ => NN - (vInt ii).toNat)
  case atStart => exact ⟨0, none, 0, none, 0, [], [], by omega, rfl, rfl, rfl, Lib.hid (.inl ⟨rfl, rfl, rfl, rfl⟩), Lib.hid ⟨by simp, Flat.nil _ _ _ _ _, Flat.nil _ _ _ _ _, Below.refl _ _⟩⟩
  case round =>
    obtain ⟨n, A, ac, B, bc, s, v, hn, rfl, rfl, rfl, hL, hR⟩ := hrel
    obtain ⟨hs5, hA, hBv, hB⟩ := hR.out
    have bw := HB5.out.trans (hB.mono HB5.out.size)
    by_cases hlt : n + 1 < NN
    · have hil : (n : Int) + 1 < (NN : Int) := by omega
      have km := (HK5.out wr hB).cell
      have HST := Lib.hid (setR_any (n + 1) N (by omega) hN wr)
      have HL5 := HE.out (n + 1) _ rfl
      have HNZ := Lib.hid (HNE.out (n + 1) (by omega) hlt)
      have HG : Hid (∀ W, Below w.heap.size w W → ∀ SA k, IntsAt W W.heap.size SA (setB (n + 1) N) → Calls Tryz.prog 40 #[.agg #[.int .i64 (N : Int), .slice C cl.length c, .slice T tl.length t, .int .i64 need], .slice X x.length xc, .slice SA (setB (n + 1) N).length k, .bool yes] W (OthS W (g (setB (n + 1) N)))) := Lib.hid (fun W hW SA k h => HOt.out W hW (n + 1) SA k hlt h)
      have HBE : Hid (bestB g N (n + 1) = stepB g (setB (n + 1) N) (bestB g N n)) := Lib.hid rfl
      rw [show ((n + 1 : Nat) : Int) = (n : Int) + 1 by omega] at HST
      have HAA := Lib.hid (fun W (h : Below wr.heap.size wr W) => hA.later h)
      have HBB := Lib.hid (fun W (h : Below wr.heap.size wr W) => hBv.later h)
      have HBW := Lib.hid (fun W (h : Below wr.heap.size wr W) => bw.trans (h.mono bw.size))
      have HB5W := Lib.hid (fun W (h : Below wr.heap.size wr W) => hB.trans (h.mono hB.size))
      have HKW := Lib.hid (fun W (h : Below wr.heap.size wr W) => HK5.out W (hB.trans (h.mono hB.size)))
      clear hR hA hBv hB bw HE HNE
      generalize setB (n + 1) N = l at *
      generalize ho1 : bestB g N (n + 1) = o1 at *
      have HBO := Lib.hid ho1
      clear ho1
      generalize bestB g N n = o at *
      go_upto_region 9 with (go_at_call 38; (with_reducible refine (HST.out).mono ?_); rintro e w6 ⟨S, s6, rfl, hS, hS0, h6⟩)
      obtain ⟨a6, rfl⟩ : ∃ a, S = some a := by
        cases S with
        | none => exact absurd (hS0 rfl) HNZ.out
        | some a => exact ⟨a, rfl⟩
      have km6 := (HKW.out w6 h6).cell
      have H6 := Lib.hid h6
      have hSW := hS
      have HL5' := HL5
      clear hS0 hS km HL5 HST
      have HS5 := Lib.hid hs5
      have HL5 := Lib.hid HL5'
      clear hs5 HL5'
      rcases hL.out with ⟨rfl, rfl, rfl, rfl⟩ | ⟨rfl, a, rfl⟩
      · have HNn : Hid (g l = none → o1 = none) := Lib.hid (fun e => by rw [HBE.out]; unfold stepB; rw [e]; rfl)
        have HTk : Hid (∀ u, g l = some u → o1 = some (l, u)) := Lib.hid (fun u e => by rw [HBE.out]; unfold stepB; rw [e]; rfl)
        clear HBE hL
        generalize hll : l.length = ll at *
        have HLL := Lib.hid hll
        clear hll
        have HOC := Lib.hid (HG.out w6 (HBW.out w6 H6.out) (some a6) s6 hSW)
        obtain ⟨r, hr⟩ : ∃ r, g l = r := ⟨_, rfl⟩
        rw [hr] at HOC
        have HHW := Lib.hid H6.out
        have HSW := Lib.hid hSW
        cases r with
        | none =>
          have HO1 : Hid (o1 = none) := Lib.hid (HNn.out hr)
          have HOD : Hid (Calls Tryz.prog 40 #[.agg #[.int .i64 (N : Int), .slice C cl.length c, .slice T tl.length t, .int .i64 need], .slice X x.length xc, .slice (some a6) ll s6, .bool yes] w6 fun e w' => ∃ A c, e = .returned (.tuple #[.slice A 0 c, .bool false]) ∧ Below w6.heap.size w6 w') := Lib.hid (HOC.out.mono fun e w' ⟨A, c, h1, _, h3⟩ => ⟨A, c, h1, h3⟩)
          clear HOC hr HG HNn HTk hSW
          go_wp2_with (go_at_call 40; (with_reducible refine (HOD.out).mono ?_); rintro e w8 ⟨U, uc, rfl, h8⟩)
          go_roundw
          case rel =>
            have h9 := HHW.out.trans (h8.mono HHW.out.size)
            exact ⟨n + 1, none, ac, B, bc, [], [], hlt, rfl, rfl, by go_num, Lib.hid (.inl ⟨HBO.out.trans HO1.out, rfl, rfl, rfl⟩), Lib.hid ⟨by simp, HAA.out w8 h9, HBB.out w8 h9, HB5W.out w8 h9⟩⟩
          case measure => simp [vInt]; omega
        | some u =>
          have HO1 : Hid (o1 = some (l, u)) := Lib.hid (HTk.out u hr)
          have HOD : Hid (Calls Tryz.prog 40 #[.agg #[.int .i64 (N : Int), .slice C cl.length c, .slice T tl.length t, .int .i64 need], .slice X x.length xc, .slice (some a6) ll s6, .bool yes] w6 fun e w' => ∃ A c, e = .returned (.tuple #[.slice A u.length c, .bool true]) ∧ IntsAt w' w'.heap.size A u ∧ Below w6.heap.size w6 w') := Lib.hid (HOC.out.mono fun e w' ⟨A, c, h1, h2, h3⟩ => ⟨A, c, h1, h2, h3⟩)
          clear HOC hr HG HNn HTk hSW
          go_wp2_with (go_at_call 40; (with_reducible refine (HOD.out).mono ?_); rintro e w8 ⟨U, uc, rfl, hU, h8⟩)
          go_roundw
          case rel =>
            have h9 := HHW.out.trans (h8.mono HHW.out.size)
            exact ⟨n + 1, some a6, s6, U, uc, l, u, hlt, by rw [HLL.out], rfl, by go_num, Lib.hid (.inr ⟨HBO.out.trans HO1.out, a6, rfl⟩), Lib.hid ⟨by rw [HLL.out]; exact HL5.out, HSW.out.later h8, hU, HB5W.out w8 h9⟩⟩
          case measure => simp [vInt]; omega
      · rcases Nat.lt_trichotomy s.length l.length with hq | hq | hq
        · have HO1 : Hid (o1 = some (s, v)) := Lib.hid (by rw [HBE.out, stepB_some, if_pos hq])
          clear HBE hL hSW
          generalize hll : l.length = ll at *
          have HLL := Lib.hid hll
          generalize hsl : s.length = sl at *
          have HSL := Lib.hid hsl
          clear hll hsl
          have hq1 : (sl : Int) < (ll : Int) := by omega
          have HHW := Lib.hid H6.out
          clear HG
          go_wp2_with fail
          go_roundw
          case rel =>
            exact ⟨n + 1, some a, ac, B, bc, s, v, hlt, by rw [HSL.out], rfl, by go_num, Lib.hid (.inr ⟨HBO.out.trans HO1.out, a, rfl⟩), Lib.hid ⟨by rw [HSL.out]; exact HS5.out, HAA.out w6 HHW.out, HBB.out w6 HHW.out, HB5W.out w6 HHW.out⟩⟩
          case measure => simp [vInt]; omega
        · have HNn : Hid (g l = none → o1 = some (s, v)) := Lib.hid (fun e => by rw [HBE.out, stepB_some, if_neg (by omega), if_neg (by omega), e]; simp)
          have HTk : Hid (cmpL l s < 0 → ∀ u, g l = some u → o1 = some (l, u)) := Lib.hid (fun h u e => by rw [HBE.out, stepB_some, if_neg (by omega), if_neg (by omega), if_pos h, e])
          have HSk : Hid (¬ cmpL l s < 0 → o1 = some (s, v)) := Lib.hid (fun h => by rw [HBE.out, stepB_some, if_neg (by omega), if_neg (by omega), if_neg h])
          have HEC := Lib.hid (earlierR_any l s (some a6) (some a) s6 ac w6 hSW (HAA.out w6 H6.out) ⟨by omega, by omega⟩ (by have := HL5.out; omega))
          clear HBE hL
          have hqa : s.length ≤ l.length := by omega
          have hqb : l.length ≤ s.length := by omega
          clear hq
          generalize hll : l.length = ll at *
          have HLL := Lib.hid hll
          clear hll
          generalize hsl : s.length = sl at *
          have HSL := Lib.hid hsl
          clear hsl
          obtain rfl : sl = ll := by omega
          clear hqa hqb
          obtain ⟨ee, hee⟩ : ∃ ee, decide (cmpL l s < 0) = ee := ⟨_, rfl⟩
          rw [hee] at HEC
          cases ee with
          | true =>
            have HTk2 := Lib.hid (HTk.out (of_decide_eq_true hee))
            clear HTk HSk hee
            have HTk := HTk2
            clear HTk2
            have HSS := Lib.hid hSW
            clear hSW
            go_upto_region 10 with (go_at_call 39; (with_reducible refine (HEC.out).mono ?_); rintro e w7 ⟨rfl, h7⟩)
            have hSW := HSS.out.later h7
            have h76 := H6.out.trans (h7.mono H6.out.size)
            have H76 := Lib.hid h76
            have km7 := (HKW.out w7 h76).cell
            clear h7 h76 HEC km6
            have HOC := Lib.hid (HG.out w7 (HBW.out w7 H76.out) (some a6) s6 hSW)
            obtain ⟨r, hr⟩ : ∃ r, g l = r := ⟨_, rfl⟩
            rw [hr] at HOC
            have HHW := Lib.hid H76.out
            have HSW := Lib.hid hSW
            cases r with
            | none =>
              have HO1 : Hid (o1 = some (s, v)) := Lib.hid (HNn.out hr)
              have HOD : Hid (Calls Tryz.prog 40 #[.agg #[.int .i64 (N : Int), .slice C cl.length c, .slice T tl.length t, .int .i64 need], .slice X x.length xc, .slice (some a6) sl s6, .bool yes] w7 fun e w' => ∃ A c, e = .returned (.tuple #[.slice A 0 c, .bool false]) ∧ Below w7.heap.size w7 w') := Lib.hid (HOC.out.mono fun e w' ⟨A, c, h1, _, h3⟩ => ⟨A, c, h1, h3⟩)
              clear HOC hr HG HNn HTk hSW
              go_wp2_with (go_at_call 40; (with_reducible refine (HOD.out).mono ?_); rintro e w8 ⟨U, uc, rfl, h8⟩)
              go_roundw
              case rel =>
                have h9 := HHW.out.trans (h8.mono HHW.out.size)
                exact ⟨n + 1, (some a), ac, B, bc, s, v, hlt, by rw [HSL.out], rfl, by go_num, Lib.hid (.inr ⟨HBO.out.trans HO1.out, a, rfl⟩), Lib.hid ⟨by rw [HSL.out]; exact HS5.out, HAA.out w8 h9, HBB.out w8 h9, HB5W.out w8 h9⟩⟩
              case measure => simp [vInt]; omega
            | some u =>
              have HO1 : Hid (o1 = some (l, u)) := Lib.hid (HTk.out u hr)
              have HOD : Hid (Calls Tryz.prog 40 #[.agg #[.int .i64 (N : Int), .slice C cl.length c, .slice T tl.length t, .int .i64 need], .slice X x.length xc, .slice (some a6) sl s6, .bool yes] w7 fun e w' => ∃ A c, e = .returned (.tuple #[.slice A u.length c, .bool true]) ∧ IntsAt w' w'.heap.size A u ∧ Below w7.heap.size w7 w') := Lib.hid (HOC.out.mono fun e w' ⟨A, c, h1, h2, h3⟩ => ⟨A, c, h1, h2, h3⟩)
              clear HOC hr HG HNn HTk hSW
              go_wp2_with (go_at_call 40; (with_reducible refine (HOD.out).mono ?_); rintro e w8 ⟨U, uc, rfl, hU, h8⟩)
              go_roundw
              case rel =>
                have h9 := HHW.out.trans (h8.mono HHW.out.size)
                exact ⟨n + 1, some a6, s6, U, uc, l, u, hlt, by rw [HLL.out], rfl, by go_num, Lib.hid (.inr ⟨HBO.out.trans HO1.out, a6, rfl⟩), Lib.hid ⟨by rw [HLL.out]; exact HL5.out, HSW.out.later h8, hU, HB5W.out w8 h9⟩⟩
              case measure => simp [vInt]; omega
          | false =>
            have HO1 := Lib.hid (HSk.out (of_decide_eq_false hee))
            clear HTk HNn HSk hee hSW
            go_upto_region 7 with (go_at_call 39; (with_reducible refine (HEC.out).mono ?_); rintro e w7 ⟨rfl, h7⟩)
            have h76 := H6.out.trans (h7.mono H6.out.size)
            have H76 := Lib.hid h76
            clear h7 h76 HEC
            have HHW := Lib.hid H76.out
            clear HG
            go_wp2_with fail
            go_roundw
            case rel =>
              exact ⟨n + 1, some a, ac, B, bc, s, v, hlt, by rw [HSL.out], rfl, by go_num, Lib.hid (.inr ⟨HBO.out.trans HO1.out, a, rfl⟩), Lib.hid ⟨by rw [HSL.out]; exact HS5.out, HAA.out w7 HHW.out, HBB.out w7 HHW.out, HB5W.out w7 HHW.out⟩⟩
            case measure => simp [vInt]; omega
        · have HNn : Hid (g l = none → o1 = some (s, v)) := Lib.hid (fun e => by rw [HBE.out, stepB_some, if_neg (by omega), if_pos hq, e])
          have HTk : Hid (∀ u, g l = some u → o1 = some (l, u)) := Lib.hid (fun u e => by rw [HBE.out, stepB_some, if_neg (by omega), if_pos hq, e])
          clear HBE hL
          generalize hll : l.length = ll at *
          have HLL := Lib.hid hll
          generalize hsl : s.length = sl at *
          have HSL := Lib.hid hsl
          clear hll hsl
          have hq1 : ¬ (sl : Int) < (ll : Int) := by omega
          have hq2 : ((ll : Int) == (sl : Int)) = false := by rw [beq_eq_false_iff_ne]; omega
          have HOC := Lib.hid (HG.out w6 (HBW.out w6 H6.out) (some a6) s6 hSW)
          obtain ⟨r, hr⟩ : ∃ r, g l = r := ⟨_, rfl⟩
          rw [hr] at HOC
          have HHW := Lib.hid H6.out
          have HSW := Lib.hid hSW
          cases r with
          | none =>
            have HO1 : Hid (o1 = some (s, v)) := Lib.hid (HNn.out hr)
            have HOD : Hid (Calls Tryz.prog 40 #[.agg #[.int .i64 (N : Int), .slice C cl.length c, .slice T tl.length t, .int .i64 need], .slice X x.length xc, .slice (some a6) ll s6, .bool yes] w6 fun e w' => ∃ A c, e = .returned (.tuple #[.slice A 0 c, .bool false]) ∧ Below w6.heap.size w6 w') := Lib.hid (HOC.out.mono fun e w' ⟨A, c, h1, _, h3⟩ => ⟨A, c, h1, h3⟩)
            clear HOC hr HG HNn HTk hSW
            go_wp2_with (go_at_call 40; (with_reducible refine (HOD.out).mono ?_); rintro e w8 ⟨U, uc, rfl, h8⟩)
            go_roundw
            case rel =>
              have h9 := HHW.out.trans (h8.mono HHW.out.size)
              exact ⟨n + 1, (some a), ac, B, bc, s, v, hlt, by rw [HSL.out], rfl, by go_num, Lib.hid (.inr ⟨HBO.out.trans HO1.out, a, rfl⟩), Lib.hid ⟨by rw [HSL.out]; exact HS5.out, HAA.out w8 h9, HBB.out w8 h9, HB5W.out w8 h9⟩⟩
            case measure => simp [vInt]; omega
          | some u =>
            have HO1 : Hid (o1 = some (l, u)) := Lib.hid (HTk.out u hr)
            have HOD : Hid (Calls Tryz.prog 40 #[.agg #[.int .i64 (N : Int), .slice C cl.length c, .slice T tl.length t, .int .i64 need], .slice X x.length xc, .slice (some a6) ll s6, .bool yes] w6 fun e w' => ∃ A c, e = .returned (.tuple #[.slice A u.length c, .bool true]) ∧ IntsAt w' w'.heap.size A u ∧ Below w6.heap.size w6 w') := Lib.hid (HOC.out.mono fun e w' ⟨A, c, h1, h2, h3⟩ => ⟨A, c, h1, h2, h3⟩)
            clear HOC hr HG HNn HTk hSW
            go_wp2_with (go_at_call 40; (with_reducible refine (HOD.out).mono ?_); rintro e w8 ⟨U, uc, rfl, hU, h8⟩)
            go_roundw
            case rel =>
              have h9 := HHW.out.trans (h8.mono HHW.out.size)
              exact ⟨n + 1, some a6, s6, U, uc, l, u, hlt, by rw [HLL.out], rfl, by go_num, Lib.hid (.inr ⟨HBO.out.trans HO1.out, a6, rfl⟩), Lib.hid ⟨by rw [HLL.out]; exact HL5.out, HSW.out.later h8, hU, HB5W.out w8 h9⟩⟩
            case measure => simp [vInt]; omega
    · have hil : ¬ (n : Int) + 1 < (NN : Int) := by omega
      have hnn : NN - 1 = n := by omega
      have km := (HK5.out wr hB).cell
      have HLL := Lib.hid hL.out
      have HRR := Lib.hid hR.out
      have HBWW := Lib.hid bw
      have HNN := Lib.hid hnn
      clear hL hR hA hBv hB bw hnn HE HNE hs5
      have hnil : ∀ (W : World) (a : Option Addr) (n c : Nat), (binOp .eql 31 (.slice a n c) (.slice none 0 0)).run Tryz.prog W = .ok (.bool a.isNone) W := fun W a n c => Lib.run_eql_slice_nil W _ _ a n c 0 0 Tryz.underlying31
      rcases HLL.out with ⟨ho, rfl, rfl, rfl⟩ | ⟨ho, a, rfl⟩
      · have HO := Lib.hid ho
        clear ho HLL
        go_wp2_with fail
        show bodyPost _ _ _ _ _ _
        exact bodyPost_ret (v := .tuple #[.slice none 0 0, .slice none 0 0, .int .i64 6]) (by simp [results, Tryz.results22, go_sem]) rfl (by
          rw [HNN.out, HO.out]
          exact ⟨HBWW.out, none, 0, none, 0, rfl, Flat.nil _ _ _ _ _, Flat.nil _ _ _ _ _⟩)
      · have HO := Lib.hid ho
        clear ho HLL
        go_wp2_with fail
        show bodyPost _ _ _ _ _ _
        exact bodyPost_ret (v := .tuple #[.slice (some a) s.length ac, .slice B v.length bc, .int .i64 0]) (by simp [results, Tryz.results22, go_sem]) rfl (by
          rw [HNN.out, HO.out]
          exact ⟨HBWW.out, some a, ac, B, bc, rfl, HRR.out.2.1, HRR.out.2.2.1⟩)
end Go.Proofs.YtkimojiakabbcaaGreat

namespace Go.Proofs.YtkimojiakabbcaaGreat
open Go.RowKit Go.Maps

/-- What the reference finds. -/
def refR (m : Mdl) (x : List Int) : Option (List Int × List Int) := bestB (fun s => othR m x s (scY m x)) x.length (2 ^ x.length - 1)
def refE (m : Mdl) (x : List Int) : Int := if forE m x = 0 then (if (refR m x).isNone = true then 6 else 0) else forE m x
def refS (m : Mdl) (x : List Int) : List Int := if forE m x = 0 then ((refR m x).map Prod.fst).getD [] else []
def refV (m : Mdl) (x : List Int) : List Int := if forE m x = 0 then ((refR m x).map Prod.snd).getD [] else []
def RefT (w : World) (m : Mdl) (x : List Int) (e : Ending) (w' : World) : Prop :=
  Below w.heap.size w w' ∧ ∃ (A : Option Addr) (a : Nat) (B : Option Addr) (b : Nat), e = .returned (.tuple #[.slice A (refS m x).length a, .slice B (refV m x).length b, .int .i64 (refE m x)]) ∧ IntsAt w' w'.heap.size A (refS m x) ∧ IntsAt w' w'.heap.size B (refV m x)
set_option maxRecDepth 100000 in
set_option maxHeartbeats 8000000 in
theorem reasonsR_bad (traits need : Int) (cl : List CrdD) (tl : List TreD) (C T : Option Addr) (c t : Nat) (x : List Int) (X : Option Addr) (xc : Nat) (w : World) (sc : Int) (yes : Bool) (E : Int) (hE : (E != 0) = true)
    (HSc : Hid (∀ W, Below w.heap.size w W → Calls Tryz.prog 37 #[.agg #[.int .i64 traits, .slice C cl.length c, .slice T tl.length t, .int .i64 need], .slice X x.length xc] W fun e w' => e = .returned (.tuple #[.int .i64 sc, .bool yes, .int .i64 E]) ∧ Below W.heap.size W w')) :
    Calls Tryz.prog 22 #[.agg #[.int .i64 traits, .slice C cl.length c, .slice T tl.length t, .int .i64 need], .slice X x.length xc] w fun e w' => e = .returned (.tuple #[.slice none 0 0, .slice none 0 0, .int .i64 E]) ∧ Below w.heap.size w w' := by
  have b1 := (Below.refl w.heap.size w).alloc (Nat.le_refl _) (.cells #[.int .i64 traits, .slice C cl.length c, .slice T tl.length t, .int .i64 need] 29)
  have k1 := Blk.new w #[.int .i64 traits, .slice C cl.length c, .slice T tl.length t, .int .i64 need] 29
  have k1c := k1.cell
  go_enter Tryz.func22, Tryz.ntmps22
  go_wp2_with (go_at_call 37; (with_reducible refine (HSc.out _ b1).mono ?_); rintro e w5 ⟨rfl, h5⟩; have b5 := b1.trans (h5.mono b1.size))
  show bodyPost _ _ _ _ _ _
  exact bodyPost_ret (v := .tuple #[.slice none 0 0, .slice none 0 0, .int .i64 E]) (by simp [results, Tryz.results22, go_sem]) rfl ⟨rfl, b5⟩
theorem reasonsR_all (traits need : Int) (cl : List CrdD) (tl : List TreD) (C T : Option Addr) (c t : Nat) (x : List Int) (X : Option Addr) (xc : Nat) (w : World) (h : MdlAt w w.heap.size ⟨traits, cl, C, c, tl, T, t, need⟩) (hls : MdlLe ⟨traits, cl, C, c, tl, T, t, need⟩) (hx : IntsAt w w.heap.size X x) (hxl : x.length ≤ 10) :
    Calls Tryz.prog 22 #[.agg #[.int .i64 traits, .slice C cl.length c, .slice T tl.length t, .int .i64 need], .slice X x.length xc] w (RefT w ⟨traits, cl.map CrdD.v, tl.map TreD.v, need⟩ x) := by
  have HSc : ∀ W, Below w.heap.size w W → _ := fun W hW => scoreR_all traits need cl tl C T c t x X xc W (h.later hW) hls (hx.later hW) hxl
  by_cases hE : forE ⟨traits, cl.map CrdD.v, tl.map TreD.v, need⟩ x = 0
  · have q1 : mdlB ⟨traits, cl.map CrdD.v, tl.map TreD.v, need⟩ = true := by
      unfold forE at hE
      split at hE
      · assumption
      · cases hE
    have q2 : valsB traits x = true := by
      unfold forE at hE
      rw [if_pos q1] at hE
      split at hE
      · assumption
      · cases hE
    have hv : (x.length : Int) = traits := by
      have q := q2
      unfold valsB at q
      simp only [Bool.and_eq_true, decide_eq_true_eq] at q
      exact q.1
    have h5 : x.length ≤ 5 := by have := (mdlB_parts q1).1; dsimp only at this; omega
    subst hv
    rw [hE] at HSc
    refine (reasonsR_good x.length need cl tl C T c t x X xc w _ _ (fun s => othR ⟨x.length, cl.map CrdD.v, tl.map TreD.v, need⟩ x s (scY ⟨x.length, cl.map CrdD.v, tl.map TreD.v, need⟩ x)) h5 (Lib.hid HSc) (Lib.hid (fun W hW b SA k hb hS => otherR_any _ need cl tl C T c t x X xc _ SA k _ W (h.later hW) hls (hx.later hW) hS q1 rfl (Nat.le_trans (setB_len _ _) h5) (fun i hi => ?_)))).mono ?_
    · obtain ⟨k, h1, h2⟩ := setB_range (List.getElem_mem hi)
      exact ⟨k, by rw [getD_lt _ _ hi]; exact h1, h2⟩
    · rintro e w' ⟨hB, A, a, B, b, rfl, hA, hB2⟩
      unfold RefT
      have e1 : refS ⟨x.length, cl.map CrdD.v, tl.map TreD.v, need⟩ x = _ := if_pos hE
      have e2 : refV ⟨x.length, cl.map CrdD.v, tl.map TreD.v, need⟩ x = _ := if_pos hE
      have e3 : refE ⟨x.length, cl.map CrdD.v, tl.map TreD.v, need⟩ x = _ := if_pos hE
      rw [e1, e2, e3]
      exact ⟨hB, A, a, B, b, rfl, hA, hB2⟩
  · have e1 : refS ⟨traits, cl.map CrdD.v, tl.map TreD.v, need⟩ x = _ := if_neg hE
    have e2 : refV ⟨traits, cl.map CrdD.v, tl.map TreD.v, need⟩ x = _ := if_neg hE
    have e3 : refE ⟨traits, cl.map CrdD.v, tl.map TreD.v, need⟩ x = _ := if_neg hE
    unfold RefT
    rw [e1, e2, e3]
    refine (reasonsR_bad traits need cl tl C T c t x X xc w _ _ _ (by simpa using hE) (Lib.hid HSc)).mono ?_
    rintro e w' ⟨rfl, hB⟩
    exact ⟨hB, none, 0, none, 0, rfl, Flat.nil _ _ _ _ _, Flat.nil _ _ _ _ _⟩
end Go.Proofs.YtkimojiakabbcaaGreat
