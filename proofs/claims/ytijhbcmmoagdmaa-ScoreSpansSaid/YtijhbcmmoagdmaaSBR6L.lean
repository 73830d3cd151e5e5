/- Data for the reference's walk over all vectors. -/
import Derived.Test.YtijhbcmmoagdmaaSBR5

namespace Go.Proofs.Ytijhbcmmoagdmaa
open Go.RowKit Go.Maps

theorem Blk.kpt {w w' : World} {g : Nat} {cs : Array Value} {t : TypeId} {P : Nat → Prop} (h : Blk w g cs t) (k : Kpt P w w') (hp : P g) : Blk w' g cs t := (k.blk g h.lt hp).trans h
def ici (l : List Int) : Array Value := (l.map fun x => Value.int .i64 x).toArray
theorem ici_at {l : List Int} {i : Nat} (h : i < l.length) : (ici l)[i]? = some (.int .i64 l[i]) := by unfold ici; simp [h]
theorem ici_ex {l : List Int} {i : Nat} (h : i < l.length) : ∃ x, (ici l)[i]? = some (.int .i64 x) := ⟨_, ici_at h⟩
theorem ici_set (l : List Int) (i : Nat) (n : Int) : (ici l).setIfInBounds i (.int .i64 n) = ici (l.set i n) := by unfold ici; simp [List.map_set]
theorem made_list (T : Nat) : madeCells #[Value.int .i64 0] T = (List.replicate T (Value.int .i64 0)).toArray := by
  rw [← toList_madeCells_one]
theorem ici_made (T : Nat) : madeCells #[.int .i64 0] T = ici (List.replicate T 0) := by rw [made_list]; unfold ici; simp
theorem dg_made (T : Nat) : madeCells #[.int .i64 0] T = dg (List.replicate T 0) := by rw [made_list]; unfold dg; simp
theorem ints_ici {w : World} {g : Nat} {l : List Int} {t : TypeId} (h : Blk w g (ici l) t) : IntsAt w w.heap.size (some ⟨g, 0, none⟩) l := fun k hk => by
  refine ⟨g, 0, rfl, h.lt, fun j hj => ?_⟩
  obtain rfl : j = 0 := by omega
  have := h.cell k
  rw [ici_at hk] at this
  simpa [intC] using this
theorem digs_zero : ∀ (l : List Nat), digs l 0 = List.replicate l.length 0
  | [] => rfl
  | n :: r => by
    show 0 / nums r :: digs r (0 % nums r) = _
    rw [Nat.zero_div, Nat.zero_mod, digs_zero r]; rfl
theorem vecD_len (L : List (List Int)) (d : List Nat) : (vecD L d).length = L.length := by unfold vecD; simp
theorem vals_set {L : List (List Int)} {d : List Nat} {v : List Int} {i : Nat} (hi : i < L.length) (hv : v.length = L.length) :
    ((vecD L d).take i ++ v.drop i).set i ((L.getD i []).getD (d.getD i 0) 0) = (vecD L d).take (i + 1) ++ v.drop (i + 1) := by
  have hl := vecD_len L d
  have hg : (vecD L d)[i]'(by omega) = (L.getD i []).getD (d.getD i 0) 0 := by unfold vecD; simp
  rw [List.take_succ_eq_append_getElem (by omega), List.set_append_right _ _ (by rw [List.length_take]; omega), List.length_take, Nat.min_eq_left (by omega), Nat.sub_self, List.drop_eq_getElem_cons (by omega : i < v.length), hg, List.append_assoc]
  rfl
theorem LsInv.outer {w : World} {lo : Nat} {A : Option Addr} {c n : Nat} {l : List LsD} (h : LsInv w lo A c n l) {i : Nat} (hi : i < l.length) : ∃ b off, A = some ⟨b, off, none⟩ ∧ lo ≤ b ∧ b < w.heap.size ∧ w.cell? ⟨b, off + i, none⟩ = some (.slice l[i].A l[i].l.length l[i].a) := by
  obtain ⟨e1, h2, _⟩ := h
  subst e1
  obtain ⟨b, off, e, h3, h4, _, h5⟩ := FlatX.of_own (row := none) lsC_len (by decide) h2 (Nat.le_refl _) (fun g e => by cases e) i hi
  refine ⟨b, off, e, h3, h4, ?_⟩
  have := h5 0 (by decide)
  rw [Nat.mul_one, Nat.add_zero] at this
  rw [this]; rfl
theorem LsInv.inner {w : World} {lo : Nat} {A : Option Addr} {c n : Nat} {l : List LsD} (h : LsInv w lo A c n l) {i : Nat} (hi : i < l.length) {k : Nat} (hk : k < l[i].l.length) : ∃ b off, l[i].A = some ⟨b, off, none⟩ ∧ lo ≤ b ∧ b < w.heap.size ∧ w.cell? ⟨b, off + k, none⟩ = some (.int .i64 l[i].l[k]) := by
  obtain ⟨b, off, e, h3, h4, _, h5⟩ := h.2.2 _ (List.getElem_mem hi) k hk
  refine ⟨b, off, e, h3, h4, ?_⟩
  have := h5 0 (by decide)
  rw [Nat.mul_one, Nat.add_zero] at this
  rw [this]; rfl
theorem lens_ls {L : List (List Int)} {l : List LsD} (h : l.map LsD.l = L) {i : Nat} (hi : i < l.length) (hi' : i < (lens L).length) : (lens L)[i] = l[i].l.length := by
  subst h; simp [lens]
theorem getD_ls {L : List (List Int)} {l : List LsD} (h : l.map LsD.l = L) {i : Nat} (hi : i < l.length) : L.getD i [] = l[i].l := by
  subst h; rw [getD_lt _ _ (by simpa using hi)]; simp
theorem loL_one (n : Int) (h : n ≤ 9223372036854775808) : loL [n] = n := by
  have := loL_snoc [] n
  rw [List.nil_append] at this
  rw [this]
  show min (-(-9223372036854775808 : Int)) n = n
  omega
theorem hiL_one (n : Int) (h : -9223372036854775808 ≤ n) : hiL [n] = n := by
  have := hiL_snoc [] n
  rw [List.nil_append] at this
  rw [this]
  show max (-9223372036854775808 : Int) n = n
  omega
/-- What is known behind q vectors. -/
structure OdoSt (f : List Int → Int) (L : List (List Int)) (q : Nat) (lo hi : Int) : Prop where
  le : q ≤ nums (lens L)
  lo : 0 < q → lo = loL (((vecs L).take q).map f)
  hi : 0 < q → hi = hiL (((vecs L).take q).map f)
theorem OdoSt.first {f : List Int → Int} {L : List (List Int)} (hp : ∀ n ∈ lens L, 0 < n) {n : Int} (hn : f (vecD L (digs (lens L) 0)) = n) (h1 : -9223372036854775808 ≤ n) (h2 : n ≤ 9223372036854775808) : OdoSt f L 1 n n := by
  have h0 := nums_pos hp
  have hv := vecs_at L hp 0 h0
  have ht : (vecs L).take 1 = [vecD L (digs (lens L) 0)] := by
    obtain ⟨hlt, hv⟩ := List.getElem?_eq_some_iff.1 hv
    rw [List.take_succ_eq_append_getElem hlt, hv]; rfl
  exact ⟨h0, fun _ => by rw [ht, List.map_singleton, hn, loL_one n h2], fun _ => by rw [ht, List.map_singleton, hn, hiL_one n h1]⟩
theorem OdoSt.next {f : List Int → Int} {L : List (List Int)} {q : Nat} {lo hi : Int} (h : OdoSt f L q lo hi) (h0 : 0 < q) (hp : ∀ n ∈ lens L, 0 < n) (hq : q < nums (lens L)) {n : Int} (hn : f (vecD L (digs (lens L) q)) = n) : OdoSt f L (q + 1) (min lo n) (max hi n) := by
  have hv := vecs_at L hp q hq
  have ht : (vecs L).take (q + 1) = (vecs L).take q ++ [vecD L (digs (lens L) q)] := by
    obtain ⟨hlt, hv⟩ := List.getElem?_eq_some_iff.1 hv
    rw [List.take_succ_eq_append_getElem hlt, hv]
  exact ⟨hq, fun _ => by rw [ht, List.map_append, List.map_singleton, loL_snoc, hn, h.lo h0], fun _ => by rw [ht, List.map_append, List.map_singleton, hiL_snoc, hn, h.hi h0]⟩
theorem OdoSt.next' {f : List Int → Int} {L : List (List Int)} {q : Nat} {lo hi lo' hi' : Int} (h : OdoSt f L q lo hi) (h0 : 0 < q) (hp : ∀ n ∈ lens L, 0 < n) (hq : q < nums (lens L)) {n : Int} (hn : f (vecD L (digs (lens L) q)) = n) (e1 : lo' = min lo n) (e2 : hi' = max hi n) : OdoSt f L (q + 1) lo' hi' := by
  rw [e1, e2]; exact h.next h0 hp hq hn
theorem OdoSt.done {f : List Int → Int} {L : List (List Int)} {lo hi : Int} (h : OdoSt f L (nums (lens L)) lo hi) (hp : ∀ n ∈ lens L, 0 < n) : lo = loL ((vecs L).map f) ∧ hi = hiL ((vecs L).map f) := by
  have h0 := nums_pos hp
  have e : (vecs L).take (nums (lens L)) = vecs L := by rw [← vecs_len]; exact List.take_length ..
  have h1 := h.lo h0
  have h2 := h.hi h0
  rw [e] at h1 h2
  exact ⟨h1, h2⟩
theorem stepsI_neR (lo hi : Int) (cs : List Int) : stepsI lo hi cs ≠ [] := (stepsI_lenR lo hi cs [lo] (by simp)).2
theorem stepsI_lenL (lo hi : Int) (cs : List Int) : (stepsI lo hi cs).length ≤ 1 + cs.length := by
  have := (stepsI_lenR lo hi cs [lo] (by simp)).1
  simpa [stepsI] using this
theorem stepsL_len (m : Mdl) (x : List Spn) : (stepsL m x).length = x.length := by unfold stepsL; simp
theorem lens_len (L : List (List Int)) : (lens L).length = L.length := by unfold lens; simp
theorem lens_pos (m : Mdl) (x : List Spn) : ∀ n ∈ lens (stepsL m x), 0 < n := fun n hn => by
  unfold lens stepsL at hn
  rw [List.map_map] at hn
  obtain ⟨k, _, rfl⟩ := List.mem_map.1 hn
  exact List.length_pos_iff.2 (stepsI_neR _ _ _)
theorem scoreM_boundR {m : Mdl} {x : List Int} (h : mdlB m = true) (hl : (x.length : Int) = m.traits) (hxl : x.length ≤ 10) : -44000000000 ≤ scoreM m x ∧ scoreM m x ≤ 44000000000 := by
  obtain ⟨_, _, h3, h4, h5, h6⟩ := mdlB_parts h
  have := sumL_bound (prodL m x) (fun z hz => by
    unfold prodL at hz
    rcases List.mem_append.1 hz with hz | hz
    · obtain ⟨q, hq, rfl⟩ := List.mem_map.1 hz
      have h7 := h5 q hq
      rw [← hl] at h7
      exact mul_bound (crdB_parts h7).1 (onCrd_bound h7 hxl)
    · obtain ⟨q, hq, rfl⟩ := List.mem_map.1 hz
      have h7 := h6 q hq
      rw [← hl] at h7
      have := onTre_bound h7
      exact mul_bound (treB_parts h7).1 (by omega))
  have hlen : (prodL m x).length = m.cards.length + m.trees.length := by unfold prodL; simp
  rw [hlen] at this
  rw [scoreM_eq]
  omega
end Go.Proofs.Ytijhbcmmoagdmaa
