/- The next digits, by the reference. Written by a program. -/
import Derived.Test.YtkimojiakabbcaaGreatWP4
import Derived.Test.YtkimojiakabbcaaGreatRM
import Derived.Test.YtkimojiakabbcaaGreatSRef8
import Derived.Test.YtkimojiakabbcaaGreatRExSP2

namespace Go.Proofs.YtkimojiakabbcaaGreat
open Go.RowKit Go.Maps

def dg (l : List Nat) : Array Value := (l.map fun (k : Nat) => Value.int .i64 (k : Int)).toArray
theorem dg_at {l : List Nat} {i : Nat} (h : i < l.length) : (dg l)[i]? = some (.int .i64 (l[i] : Int)) := by
  unfold dg; simp [h]
theorem dg_set (l : List Nat) (i n : Nat) : (dg l).setIfInBounds i (.int .i64 (n : Int)) = dg (l.set i n) := by
  unfold dg; simp [List.map_set]
theorem nextD_up : ∀ (i : Nat) (ns d e : List Nat), i ≤ ns.length → ns.length = d.length → nextD (ns.drop i) (d.drop i) = (true, e) → nextD ns d = (true, d.take i ++ e)
  | 0, _, _, _, _, _, h => h
  | i + 1, [], _, _, hi, _, _ => by simp at hi
  | i + 1, _ :: _, [], _, _, hl, _ => by simp at hl
  | i + 1, n :: ns, a :: d, e, hi, hl, h => by
    have := nextD_up i ns d e (by simpa using hi) (by simpa using hl) (by simpa using h)
    unfold nextD
    rw [this]
    rfl
theorem nextD_here {ns d z : List Nat} {i : Nat} (hn : i < ns.length) (hd : i < d.length) (h : nextD (ns.drop (i + 1)) (d.drop (i + 1)) = (false, z)) :
    nextD (ns.drop i) (d.drop i) = if d[i] + 1 < ns[i] then (true, (d[i] + 1) :: z) else (false, 0 :: z) := by
  rw [List.drop_eq_getElem_cons hn, List.drop_eq_getElem_cons hd]
  unfold nextD
  rw [h]
theorem mid_at {d z : List Nat} {i : Nat} (hd : i < d.length) : (d.take (i + 1) ++ z)[i]? = some d[i] := by
  rw [List.getElem?_append_left (by rw [List.length_take]; omega), List.getElem?_take]
  simp [hd]
theorem mid_set {d z : List Nat} {i : Nat} (hd : i < d.length) (n : Nat) : (d.take (i + 1) ++ z).set i n = d.take i ++ n :: z := by
  rw [List.take_succ_eq_append_getElem hd, List.append_assoc, List.set_append_right _ _ (by rw [List.length_take]; omega)]
  simp [List.length_take, Nat.min_eq_left (Nat.le_of_lt hd)]
theorem mid_set2 {d z : List Nat} {i : Nat} (hd : i < d.length) (m n : Nat) : (d.take i ++ m :: z).set i n = d.take i ++ n :: z := by
  rw [List.set_append_right _ _ (by rw [List.length_take]; omega)]
  simp [List.length_take, Nat.min_eq_left (Nat.le_of_lt hd)]

/-- The next digits in place. -/
def NextS (w : World) (g : Nat) (t : TypeId) (ns d : List Nat) (e : Ending) (w' : World) : Prop :=
  ∃ b d', e = .returned (.bool b) ∧ nextD ns d = (b, d') ∧ Blk w' g (dg d') t ∧ Kpt (fun x => x ≠ g) w w' ∧ Below g w w'

set_option maxRecDepth 100000 in
set_option maxHeartbeats 8000000 in
theorem next6_any (g : Nat) (t : TypeId) (ns d : List Nat) (LA : Option Addr) (ac lc : Nat) (w : World) (hl : ns.length = d.length) (hT : d.length ≤ 1000) (hd : ∀ k ∈ d, k ≤ 100000) (k1 : Blk w g (dg d) t)
    (Hc : ∀ i (h : i < ns.length), ∃ b off A a, LA = some ⟨b, off, none⟩ ∧ b < w.heap.size ∧ b ≠ g ∧ w.cell? ⟨b, off + i, none⟩ = some (.slice A ns[i] a)) :
    Calls Tryz.prog 66 #[.slice (some ⟨g, 0, none⟩) d.length ac, .slice LA ns.length lc] w (NextS w g t ns d) := by
  have HC := Lib.hid Hc
  have HD := Lib.hid hd
  have hw0 : IntKind.i64.wrap ((d.length : Int) - 1) = (d.length : Int) - 1 := IntWalk.i64_in _ (by omega)
  clear Hc hd
  rw [hl]
  go_enter Tryz.func66, Tryz.ntmps66
  go_wp2_with fail
  go_loopw [5] (fun ii wr => ∃ (j : Nat) (jj : Int) (z : List Nat), j ≤ d.length ∧ ii = .int .i64 jj ∧ Hid (jj = (j : Int) - 1) ∧ Hid (nextD (ns.drop j) (d.drop j) = (false, z)) ∧ Hid (Blk wr g (dg (d.take j ++ z)) t ∧ Kpt (fun x => x ≠ g) w wr ∧ Below g w wr)) (fun ii _ => (vInt ii + 1).toNat)
  case atStart => exact ⟨d.length, _, [], Nat.le_refl _, rfl, Lib.hid rfl, Lib.hid (by rw [← hl, List.drop_length, hl, List.drop_length]; rfl), Lib.hid ⟨by rw [List.take_length, List.append_nil]; exact k1, Kpt.refl _ _, Below.refl _ _⟩⟩
  case round =>
    obtain ⟨j, jj, z, hj, rfl, hJ, hN, hR⟩ := hrel
    by_cases hj0 : j = 0
    · subst hj0
      have hjj : jj = -1 := by have := hJ.out; omega
      subst hjj
      have HV : Hid (nextD ns d = (false, z)) := Lib.hid hN.out
      clear hN hJ
      go_wp2_with fail
      go_ret
      exact ⟨false, z, rfl, HV.out, by simpa using hR.out.1, hR.out.2⟩
    · obtain ⟨i, rfl⟩ : ∃ i, j = i + 1 := ⟨j - 1, by omega⟩
      have hjj : jj = (i : Int) := by have := hJ.out; omega
      subst hjj
      have hlt : i < d.length := by omega
      have hil : (i : Int) < (d.length : Int) := by omega
      have hin : i < ns.length := by omega
      have hge : (0 : Int) ≤ (i : Int) := by omega
      obtain ⟨b, off, A, a, rfl, hb, hbg, c0⟩ := HC.out i hin
      have km := hR.out.1
      have hcl : i < (d.take (i + 1) ++ z).length := by rw [List.length_append, List.length_take]; omega
      have a0 := (km.cell i).trans (dg_at hcl)
      have hgi : (d.take (i + 1) ++ z)[i] = d[i] := by have := mid_at (z := z) hlt; rw [List.getElem?_eq_getElem hcl] at this; exact Option.some.inj this
      rw [hgi] at a0
      have f0 := km.free i
      have hdb := HD.out _ (List.getElem_mem hlt)
      have hw1 : IntKind.i64.wrap ((d[i] : Int) + 1) = (d[i] : Int) + 1 := IntWalk.i64_in _ (by omega)
      have hw2 : IntKind.i64.wrap ((i : Int) - 1) = (i : Int) - 1 := IntWalk.i64_in _ (by omega)
      have ks : Blk (wr.setCell ⟨g, i, none⟩ (.int .i64 ((d[i] : Int) + 1))) g (dg (d.take i ++ (d[i] + 1) :: z)) t := by
        have := km.set i (.int .i64 ((d[i] + 1 : Nat) : Int))
        rw [dg_set, mid_set hlt] at this
        exact this
      have kq : Kpt (fun x => x ≠ g) w (wr.setCell ⟨g, i, none⟩ (.int .i64 ((d[i] : Int) + 1))) := hR.out.2.1.trans (Kpt.set (p := ⟨g, i, none⟩) (fun h => h rfl) _)
      have KB := Lib.hid (hR.out.2.2.setCell (p := ⟨g, i, none⟩) (Nat.le_refl _) (.int .i64 ((d[i] : Int) + 1)))
      have a1 := (ks.cell i)
      have hc2 : i < (d.take i ++ (d[i] + 1) :: z).length := by rw [List.length_append, List.length_take, List.length_cons]; omega
      rw [dg_at hc2, show (d.take i ++ (d[i] + 1) :: z)[i] = d[i] + 1 from by rw [List.getElem_append_right (by rw [List.length_take]; omega)]; simp [List.length_take, Nat.min_eq_left (Nat.le_of_lt hlt)]] at a1
      have f1 := ks.free i
      have c1 := (kq.cell hb hbg).trans c0
      have HT := Lib.hid (nextD_here hin hlt hN.out)
      have KS := Lib.hid ks
      have KQ := Lib.hid kq
      have HU : Hid (∀ x, nextD (ns.drop i) (d.drop i) = (true, x) → nextD ns d = (true, d.take i ++ x)) := Lib.hid (fun x => nextD_up i ns d x (by omega) hl)
      have HZ : Hid (∀ m : Nat, (d.take i ++ m :: z).set i 0 = d.take i ++ 0 :: z) := Lib.hid (fun m => mid_set2 hlt m 0)
      have hcast : ((d[i] + 1 : Nat) : Int) = (d[i] : Int) + 1 := by omega
      rw [hcast] at a1
      clear km ks kq hN hR hJ hgi hcl hc2 hj0 hdb c0 hcast
      generalize d[i] = x at *
      generalize ns[i] = n at *
      go_wp2_with fail
      by_cases hq : (x : Int) + 1 < (n : Int)
      · have HV : Hid (nextD ns d = (true, d.take i ++ (x + 1) :: z)) := Lib.hid (HU.out _ (by rw [HT.out, if_pos (by omega)]))
        clear HT HU
        go_region
        all_goals go_wp2_with fail
        all_goals go_ret
        all_goals exact ⟨true, _, rfl, HV.out, KS.out.drew, KQ.out.trans (Kpt.of_all (Below.refl _ _).drew), KB.out.drew⟩
      · have HV : Hid (nextD (ns.drop i) (d.drop i) = (false, 0 :: z)) := Lib.hid (by rw [HT.out, if_neg (by omega)])
        clear HT HU
        go_region
        all_goals go_wp2_with fail
        all_goals go_roundw
        all_goals first
          | exact ⟨i, (i : Int) - 1, 0 :: z, by omega, by go_num, Lib.hid rfl, HV, Lib.hid ⟨by have := (KS.out.drew).set i (.int .i64 ((0 : Nat) : Int)); rw [dg_set, HZ.out] at this; exact this, (KQ.out.trans (Kpt.of_all (Below.refl _ _).drew)).trans (Kpt.set (p := ⟨g, i, none⟩) (fun h => h rfl) _), KB.out.drew.setCell (p := ⟨g, i, none⟩) (Nat.le_refl _) _⟩⟩
          | (simp [vInt]; done)
          | (simp [vInt]; omega)
end Go.Proofs.YtkimojiakabbcaaGreat

namespace Go.Proofs.YtkimojiakabbcaaGreat
open Go.RowKit Go.Maps

end Go.Proofs.YtkimojiakabbcaaGreat

namespace Go.Proofs.YtkimojiakabbcaaGreat
open Go.RowKit Go.Maps

theorem lsInfo : (Tryz.prog.info? 31).map (fun i => (i.zero, i.size, i.bytes)) = some (some (.slice none 0 0), 1, 24) := by kernel_rfl
structure LsD where
  l : List Int
  A : Option Addr
  a : Nat
def lsC (x : LsD) : List Value := [.slice x.A x.l.length x.a]
theorem sl_ones {A : Option Addr} {n c : Nat} : ∀ u ∈ [Value.slice A n c], u.oneCell' = true := fun u hu => by rw [List.mem_singleton] at hu; subst hu; rfl
theorem sl_new (w : World) (v : Value) (t : TypeId) : ∀ j u, [v][j]? = some u → (w.alloc (.cells #[v] t)).cell? ((⟨w.heap.size, 0, none⟩ : Addr).add j) = some u := fun j u hj => by
  rw [WideShapes.add_plain, Nat.zero_add]
  exact ((Blk.new w #[v] t).cell j).trans (by simpa using hj)
theorem lsC_len (x : LsD) : (lsC x).length = 1 := rfl
def LsInv (w : World) (lo : Nat) (A : Option Addr) (c n : Nat) (l : List LsD) : Prop :=
  l.length = n ∧ w.ownsRow lo 31 1 (.slice A n c) n (l.flatMap lsC) ∧ ∀ y ∈ l, FlatX 1 intC w lo (Value.slice A n c).ownBlock y.A y.l
section
variable {w w' : World} {lo : Nat} {A A' : Option Addr} {c c' n : Nat} {l : List LsD}
theorem LsInv.below (h : LsInv w lo A c n l) (hb : Below w.heap.size w w') : LsInv w' lo A c n l := ⟨h.1, own_below h.2.1 hb, fun y hy => (h.2.2 y hy).below hb⟩
theorem LsInv.lt (h : LsInv w lo A c n l) : ∀ g, (Value.slice A n c).ownBlock = some g → lo ≤ g ∧ g < w.heap.size := fun g hg => h.2.1.lt g hg
theorem LsInv.push (h : LsInv w lo A c n l) {z : LsD} (hz : FlatX 1 intC w lo (Value.slice A n c).ownBlock z.A z.l) (hown : w'.ownsRow lo 31 1 (.slice A' (n + 1) c') (n + 1) (l.flatMap lsC ++ lsC z)) (hg : w.grownBy w' (Value.slice A n c).ownBlock) (ho : (Value.slice A' (n + 1) c').ownBlock = (Value.slice A n c).ownBlock ∨ (Value.slice A' (n + 1) c').ownBlock = some w.heap.size) : LsInv w' lo A' c' (n + 1) (l ++ [z]) := by
  refine ⟨by rw [List.length_append, h.1]; rfl, by rw [List.flatMap_append]; simpa using hown, fun y hy => ?_⟩
  rcases List.mem_append.1 hy with hy | hy
  · exact (h.2.2 y hy).kept hg ho
  · rw [List.mem_singleton] at hy
    subst hy
    exact hz.kept hg ho
end

end Go.Proofs.YtkimojiakabbcaaGreat

namespace Go.Proofs.YtkimojiakabbcaaGreat
open Go.RowKit Go.Maps

theorem Blk.kpt {w w' : World} {g : Nat} {cs : Array Value} {t : TypeId} {P : Nat → Prop} (h : Blk w g cs t) (k : Kpt P w w') (hp : P g) : Blk w' g cs t := (k.blk g h.lt hp).trans h
def ici (l : List Int) : Array Value := (l.map fun x => Value.int .i64 x).toArray
theorem ici_at {l : List Int} {i : Nat} (h : i < l.length) : (ici l)[i]? = some (.int .i64 l[i]) := by unfold ici; simp [h]
theorem ici_ex {l : List Int} {i : Nat} (h : i < l.length) : ∃ x, (ici l)[i]? = some (.int .i64 x) := ⟨_, ici_at h⟩
theorem ici_set (l : List Int) (i : Nat) (n : Int) : (ici l).setIfInBounds i (.int .i64 n) = ici (l.set i n) := by unfold ici; simp [List.map_set]
theorem made_list (T : Nat) : madeCells #[Value.int .i64 0] T = (List.replicate T (Value.int .i64 0)).toArray := by
  rw [← toList_madeCells_one]
theorem ici_made (T : Nat) : madeCells #[.int .i64 0] T = ici (List.replicate T 0) := by rw [made_list]; unfold ici; simp
theorem dg_made (T : Nat) : madeCells #[.int .i64 0] T = dg (List.replicate T 0) := by rw [made_list]; unfold dg; simp
theorem ints_ici {w : World} {g : Nat} {l : List Int} {t : TypeId} (h : Blk w g (ici l) t) : IntsAt w w.heap.size (some ⟨g, 0, none⟩) l := fun k hk => by
  refine ⟨g, 0, rfl, h.lt, fun j hj => ?_⟩
  obtain rfl : j = 0 := by omega
  have := h.cell k
  rw [ici_at hk] at this
  simpa [intC] using this
theorem digs_zero : ∀ (l : List Nat), digs l 0 = List.replicate l.length 0
  | [] => rfl
  | n :: r => by
    show 0 / nums r :: digs r (0 % nums r) = _
    rw [Nat.zero_div, Nat.zero_mod, digs_zero r]; rfl
theorem vecD_len (L : List (List Int)) (d : List Nat) : (vecD L d).length = L.length := by unfold vecD; simp
theorem vals_set {L : List (List Int)} {d : List Nat} {v : List Int} {i : Nat} (hi : i < L.length) (hv : v.length = L.length) :
    ((vecD L d).take i ++ v.drop i).set i ((L.getD i []).getD (d.getD i 0) 0) = (vecD L d).take (i + 1) ++ v.drop (i + 1) := by
  have hl := vecD_len L d
  have hg : (vecD L d)[i]'(by omega) = (L.getD i []).getD (d.getD i 0) 0 := by unfold vecD; simp
  rw [List.take_succ_eq_append_getElem (by omega), List.set_append_right _ _ (by rw [List.length_take]; omega), List.length_take, Nat.min_eq_left (by omega), Nat.sub_self, List.drop_eq_getElem_cons (by omega : i < v.length), hg, List.append_assoc]
  rfl
theorem LsInv.outer {w : World} {lo : Nat} {A : Option Addr} {c n : Nat} {l : List LsD} (h : LsInv w lo A c n l) {i : Nat} (hi : i < l.length) : ∃ b off, A = some ⟨b, off, none⟩ ∧ lo ≤ b ∧ b < w.heap.size ∧ w.cell? ⟨b, off + i, none⟩ = some (.slice l[i].A l[i].l.length l[i].a) := by
  obtain ⟨e1, h2, _⟩ := h
  subst e1
  obtain ⟨b, off, e, h3, h4, _, h5⟩ := FlatX.of_own (row := none) lsC_len (by decide) h2 (Nat.le_refl _) (fun g e => by cases e) i hi
  refine ⟨b, off, e, h3, h4, ?_⟩
  have := h5 0 (by decide)
  rw [Nat.mul_one, Nat.add_zero] at this
  rw [this]; rfl
theorem LsInv.inner {w : World} {lo : Nat} {A : Option Addr} {c n : Nat} {l : List LsD} (h : LsInv w lo A c n l) {i : Nat} (hi : i < l.length) {k : Nat} (hk : k < l[i].l.length) : ∃ b off, l[i].A = some ⟨b, off, none⟩ ∧ lo ≤ b ∧ b < w.heap.size ∧ w.cell? ⟨b, off + k, none⟩ = some (.int .i64 l[i].l[k]) := by
  obtain ⟨b, off, e, h3, h4, _, h5⟩ := h.2.2 _ (List.getElem_mem hi) k hk
  refine ⟨b, off, e, h3, h4, ?_⟩
  have := h5 0 (by decide)
  rw [Nat.mul_one, Nat.add_zero] at this
  rw [this]; rfl
theorem lens_ls {L : List (List Int)} {l : List LsD} (h : l.map LsD.l = L) {i : Nat} (hi : i < l.length) (hi' : i < (lens L).length) : (lens L)[i] = l[i].l.length := by
  subst h; simp [lens]
theorem getD_ls {L : List (List Int)} {l : List LsD} (h : l.map LsD.l = L) {i : Nat} (hi : i < l.length) : L.getD i [] = l[i].l := by
  subst h; rw [getD_lt _ _ (by simpa using hi)]; simp
theorem loL_one (n : Int) (h : n ≤ 9223372036854775808) : loL [n] = n := by
  have := loL_snoc [] n
  rw [List.nil_append] at this
  rw [this]
  show min (-(-9223372036854775808 : Int)) n = n
  omega
theorem hiL_one (n : Int) (h : -9223372036854775808 ≤ n) : hiL [n] = n := by
  have := hiL_snoc [] n
  rw [List.nil_append] at this
  rw [this]
  show max (-9223372036854775808 : Int) n = n
  omega
/-- What is known behind q vectors. -/
structure OdoSt (f : List Int → Int) (L : List (List Int)) (q : Nat) (lo hi : Int) : Prop where
  le : q ≤ nums (lens L)
  lo : 0 < q → lo = loL (((vecs L).take q).map f)
  hi : 0 < q → hi = hiL (((vecs L).take q).map f)
theorem OdoSt.first {f : List Int → Int} {L : List (List Int)} (hp : ∀ n ∈ lens L, 0 < n) {n : Int} (hn : f (vecD L (digs (lens L) 0)) = n) (h1 : -9223372036854775808 ≤ n) (h2 : n ≤ 9223372036854775808) : OdoSt f L 1 n n := by
  have h0 := nums_pos hp
  have hv := vecs_at L hp 0 h0
  have ht : (vecs L).take 1 = [vecD L (digs (lens L) 0)] := by
    obtain ⟨hlt, hv⟩ := List.getElem?_eq_some_iff.1 hv
    rw [List.take_succ_eq_append_getElem hlt, hv]; rfl
  exact ⟨h0, fun _ => by rw [ht, List.map_singleton, hn, loL_one n h2], fun _ => by rw [ht, List.map_singleton, hn, hiL_one n h1]⟩
theorem OdoSt.next {f : List Int → Int} {L : List (List Int)} {q : Nat} {lo hi : Int} (h : OdoSt f L q lo hi) (h0 : 0 < q) (hp : ∀ n ∈ lens L, 0 < n) (hq : q < nums (lens L)) {n : Int} (hn : f (vecD L (digs (lens L) q)) = n) : OdoSt f L (q + 1) (min lo n) (max hi n) := by
  have hv := vecs_at L hp q hq
  have ht : (vecs L).take (q + 1) = (vecs L).take q ++ [vecD L (digs (lens L) q)] := by
    obtain ⟨hlt, hv⟩ := List.getElem?_eq_some_iff.1 hv
    rw [List.take_succ_eq_append_getElem hlt, hv]
  exact ⟨hq, fun _ => by rw [ht, List.map_append, List.map_singleton, loL_snoc, hn, h.lo h0], fun _ => by rw [ht, List.map_append, List.map_singleton, hiL_snoc, hn, h.hi h0]⟩
theorem OdoSt.next' {f : List Int → Int} {L : List (List Int)} {q : Nat} {lo hi lo' hi' : Int} (h : OdoSt f L q lo hi) (h0 : 0 < q) (hp : ∀ n ∈ lens L, 0 < n) (hq : q < nums (lens L)) {n : Int} (hn : f (vecD L (digs (lens L) q)) = n) (e1 : lo' = min lo n) (e2 : hi' = max hi n) : OdoSt f L (q + 1) lo' hi' := by
  rw [e1, e2]; exact h.next h0 hp hq hn
theorem OdoSt.done {f : List Int → Int} {L : List (List Int)} {lo hi : Int} (h : OdoSt f L (nums (lens L)) lo hi) (hp : ∀ n ∈ lens L, 0 < n) : lo = loL ((vecs L).map f) ∧ hi = hiL ((vecs L).map f) := by
  have h0 := nums_pos hp
  have e : (vecs L).take (nums (lens L)) = vecs L := by rw [← vecs_len]; exact List.take_length ..
  have h1 := h.lo h0
  have h2 := h.hi h0
  rw [e] at h1 h2
  exact ⟨h1, h2⟩
theorem stepsI_neR (lo hi : Int) (cs : List Int) : stepsI lo hi cs ≠ [] := (stepsI_lenR lo hi cs [lo] (by simp)).2
theorem stepsI_lenL (lo hi : Int) (cs : List Int) : (stepsI lo hi cs).length ≤ 1 + cs.length := by
  have := (stepsI_lenR lo hi cs [lo] (by simp)).1
  simpa [stepsI] using this
theorem stepsL_len (m : Mdl) (x : List Spn) : (stepsL m x).length = x.length := by unfold stepsL; simp
theorem lens_len (L : List (List Int)) : (lens L).length = L.length := by unfold lens; simp
theorem lens_pos (m : Mdl) (x : List Spn) : ∀ n ∈ lens (stepsL m x), 0 < n := fun n hn => by
  unfold lens stepsL at hn
  rw [List.map_map] at hn
  obtain ⟨k, _, rfl⟩ := List.mem_map.1 hn
  exact List.length_pos_iff.2 (stepsI_neR _ _ _)
theorem scoreM_boundR {m : Mdl} {x : List Int} (h : mdlB m = true) (hl : (x.length : Int) = m.traits) (hxl : x.length ≤ 10) : -44000000000 ≤ scoreM m x ∧ scoreM m x ≤ 44000000000 := by
  obtain ⟨_, _, h3, h4, h5, h6⟩ := mdlB_parts h
  have := sumL_bound (prodL m x) (fun z hz => by
    unfold prodL at hz
    rcases List.mem_append.1 hz with hz | hz
    · obtain ⟨q, hq, rfl⟩ := List.mem_map.1 hz
      have h7 := h5 q hq
      rw [← hl] at h7
      exact mul_bound (crdB_parts h7).1 (onCrd_bound h7 hxl)
    · obtain ⟨q, hq, rfl⟩ := List.mem_map.1 hz
      have h7 := h6 q hq
      rw [← hl] at h7
      have := onTre_bound h7
      exact mul_bound (treB_parts h7).1 (by omega))
  have hlen : (prodL m x).length = m.cards.length + m.trees.length := by unfold prodL; simp
  rw [hlen] at this
  rw [scoreM_eq]
  omega
end Go.Proofs.YtkimojiakabbcaaGreat
