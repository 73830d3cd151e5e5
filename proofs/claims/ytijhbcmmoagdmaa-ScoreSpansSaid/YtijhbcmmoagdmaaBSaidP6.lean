/- The cuts of a part, by the program. Written by a program. -/
import Derived.Test.YtijhbcmmoagdmaaBSaidP3
import Derived.Test.YtijhbcmmoagdmaaBSaidP4
import Derived.Deep.AppendSrc
import Derived.Lib.SlicesCompact
import Derived.Test.YtijhbcmmoagdmaaBSaidP5
import Derived.Test.YtijhbcmmoagdmaaBSaidP2
import Derived.Maps.AppendAt
import Derived.RangeFuncBox
import Derived.Test.YtijhbcmmoagdmaaBShelf
import Derived.Sort.OwnSorted

namespace Go.Proofs.Ytijhbcmmoagdmaa
open Go.RowKit Go.Maps

theorem one_new (W : World) (z : Int) (t : TypeId) : ∀ j u, (intC z)[j]? = some u → (W.alloc (.cells #[.int .i64 z] t)).cell? ((⟨W.heap.size, 0, none⟩ : Addr).add j) = some u := fun j u hj => by
  have h := (Blk.new W #[.int .i64 z] t).cell j
  rw [show ((⟨W.heap.size, 0, none⟩ : Addr).add j) = ⟨W.heap.size, j, none⟩ by rw [Addr.add]; simp; exact fun h => h.symm]
  refine h.trans ?_
  rw [← hj]; simp [intC]
theorem as_scl (v : Value) (w : World) : (Instr.typeAssert (.iface 115 v) 107 115 true).run Try.prog w = .ok (.tuple #[v, .bool true]) w := by kernel_rfl
theorem as_tre (v : Value) (w : World) : (Instr.typeAssert (.iface 95 v) 107 95 true).run Try.prog w = .ok (.tuple #[v, .bool true]) w := by kernel_rfl
theorem as_tre_no (v : Value) (w : World) : (Instr.typeAssert (.iface 95 v) 107 115 true).run Try.prog w = .ok (.tuple #[.agg #[.slice none 0 0, .slice none 0 0, .int .i64 0, .int .i64 0], .bool false]) w := by kernel_rfl
attribute [local go_sem] as_scl as_tre as_tre_no
set_option maxRecDepth 100000 in
set_option maxHeartbeats 4000000 in
theorem cutsOf_scl (x : SclD) (i k : Int) (w : World) (h : SclAt w w.heap.size x) (hl : x.v.cuts.length ≤ 10) :
    Calls Try.prog 68 #[.iface 115 (.agg #[.slice x.A x.v.cuts.length x.a, .slice x.B x.v.pts.length x.b, .int .i64 x.v.non, .int .i64 i]), .int .i64 k] w fun e w' => ∃ A' c', e = .returned (.slice A' (if i = k then x.v.cuts else []).length c') ∧ w'.ownsRow w.heap.size 3 1 (.slice A' (if i = k then x.v.cuts else []).length c') (if i = k then x.v.cuts else []).length ((if i = k then x.v.cuts else []).flatMap intC) ∧ Below w.heap.size w w' := by
  obtain ⟨i4, hi4, hq0, hq1, hq2⟩ := info_parts intInfo
  have b1 := (Below.refl w.heap.size w).alloc (Nat.le_refl _) (.cells #[.slice x.A x.v.cuts.length x.a, .slice x.B x.v.pts.length x.b, .int .i64 x.v.non, .int .i64 i] 115)
  have k1 := Blk.new w #[.slice x.A x.v.cuts.length x.a, .slice x.B x.v.pts.length x.b, .int .i64 x.v.non, .int .i64 i] 115
  have k1c := k1.cell
  have hc := (h.later b1).cuts
  have hn : x.A = none → x.v.cuts.length = 0 := fun e => by rw [e] at hc; exact Flat.none_ hc
  have hown0 := World.ownsRow_nil (w.alloc (.cells #[.slice x.A x.v.cuts.length x.a, .slice x.B x.v.pts.length x.b, .int .i64 x.v.non, .int .i64 i] 115)) w.heap.size 3 1
  by_cases hik : i = k
  · have hk2 : (i == k) = true := by simpa using hik
    rw [if_pos hik]
    subst hik
    go_enter Try.func68, Try.ntmps68
    go_wp2_with (at_builtin; refine wpList_append_src _ rfl (.tmp 18) (.tmp 21) 26 rfl w.heap.size 3 i4 _ 1 8 Try.underlying26 hi4 hq0 hq1 hq2 rfl (by decide) _ 0 [] rfl hown0 x.A x.v.cuts.length x.a (x.v.cuts.flatMap intC) rfl (flat_len intC_len x.v.cuts) hn (Flat.news intC_len (by decide) hc) (flat_ones intC_one x.v.cuts) (by unfold maxLen; omega) (by omega) (by simp) ?_; intro v1 w3 hown1 hg1 _; obtain ⟨A1, c1, rfl⟩ := own_slice hown1)
    simp only [Nat.zero_add, List.nil_append] at hown1
    go_ret
    exact ⟨A1, c1, by simp, hown1, b1.grown hg1 b1.size (fun k e => (hown0.lt k e).1)⟩
  · have hk2 : (i == k) = false := by simpa using hik
    rw [if_neg hik]
    go_enter Try.func68, Try.ntmps68
    go_wp2_with fail
    go_ret
    exact ⟨none, 0, rfl, hown0, b1⟩
theorem nodCuts_snoc (k : Int) (l : List Nod) {i : Nat} (h : i < l.length) : nodCuts k (l.take (i + 1)) = nodCuts k (l.take i) ++ (if l[i].tr = k then [l[i].cut] else []) := by
  unfold nodCuts
  rw [List.take_succ_eq_append_getElem h, List.filter_append, List.map_append]
  by_cases hk : l[i].tr = k <;> simp [hk]
theorem nodCuts_yes (k : Int) (l : List Nod) {i : Nat} (h : i < l.length) (hk : l[i].tr = k) : nodCuts k (l.take (i + 1)) = nodCuts k (l.take i) ++ [l[i].cut] := by rw [nodCuts_snoc k l h]; simp [hk]
theorem nodCuts_no (k : Int) (l : List Nod) {i : Nat} (h : i < l.length) (hk : ¬ l[i].tr = k) : nodCuts k (l.take (i + 1)) = nodCuts k (l.take i) := by rw [nodCuts_snoc k l h]; simp [hk]
theorem nodCuts_len (k : Int) (l : List Nod) : (nodCuts k l).length ≤ l.length := by unfold nodCuts; rw [List.length_map]; exact List.length_filter_le _ _
set_option maxRecDepth 100000 in
set_option maxHeartbeats 4000000 in
theorem cutsOf_tre (wt : Int) (l : List Nod) (T : Option Addr) (t : Nat) (k : Int) (w : World) (h : NodsAt w w.heap.size T l) (hl : l.length ≤ 20) :
    Calls Try.prog 68 #[.iface 95 (.agg #[.int .i64 wt, .slice T l.length t]), .int .i64 k] w fun e w' => ∃ A' c', e = .returned (.slice A' (nodCuts k l).length c') ∧ w'.ownsRow w.heap.size 3 1 (.slice A' (nodCuts k l).length c') (nodCuts k l).length ((nodCuts k l).flatMap intC) ∧ Below w.heap.size w w' := by
  obtain ⟨i4, hi4, hq0, hq1, hq2⟩ := info_parts intInfo
  have b1 := (Below.refl w.heap.size w).alloc (Nat.le_refl _) (.cells #[.int .i64 wt, .slice T l.length t] 95)
  have k1 := Blk.new w #[.int .i64 wt, .slice T l.length t] 95
  have k1c := k1.cell
  have Hh := Lib.hid (h.later b1)
  have b1s := b1.size
  go_enter Try.func68, Try.ntmps68
  go_wp2_with fail
  generalize hW1 : w.alloc (.cells #[.int .i64 wt, .slice T l.length t] 95) = W1 at *
  clear hW1 k1 k1c h
  go_loopw [5, 30] (fun ll ii wr => ∃ (i : Nat) (A' : Option Addr) (c' : Nat), i ≤ l.length ∧ ii = .int .i64 i ∧ ll = .slice A' (nodCuts k (l.take i)).length c' ∧ Hid (wr.ownsRow W1.heap.size 3 1 (.slice A' (nodCuts k (l.take i)).length c') (nodCuts k (l.take i)).length ((nodCuts k (l.take i)).flatMap intC) ∧ Below w.heap.size w wr ∧ Below W1.heap.size W1 wr)) (fun _ ii _ => l.length - (vInt ii).toNat)
  case atStart => exact ⟨0, none, 0, Nat.zero_le _, rfl, rfl, Lib.hid ⟨World.ownsRow_nil _ _ _ _, b1, Below.refl _ _⟩⟩
  case round =>
    obtain ⟨i, A2, c2, hi, rfl, rfl, hR⟩ := hrel
    obtain ⟨hO, hB, hB1⟩ := hR.out
    by_cases hlt : i < l.length
    · have hil : (i : Int) < (l.length : Int) := by omega
      obtain ⟨b, off, rfl, hb, c0, c1, c3, c4, c5⟩ := nods_at (Hh.out.later hB1) hlt
      have hsn := nodCuts_snoc k l hlt
      have hln := nodCuts_len k (l.take i)
      rw [List.length_take] at hln
      have hi1 := Lib.hid (show i + 1 ≤ l.length by omega)
      have bn := (Below.refl wr.heap.size wr).alloc (Nat.le_refl _) (.cells #[.int .i64 l[i].tr, .int .i64 l[i].cut, .int .i64 l[i].low, .int .i64 l[i].high, .int .i64 l[i].pts] 74)
      have kn := Blk.new wr #[.int .i64 l[i].tr, .int .i64 l[i].cut, .int .i64 l[i].low, .int .i64 l[i].high, .int .i64 l[i].pts] 74
      have knc := kn.cell
      by_cases hk : l[i].tr = k
      · have hk2 : (l[i].tr == k) = true := by simpa using hk
        have Hsn := Lib.hid (nodCuts_yes k l hlt hk)
        clear hsn hk
        generalize l[i] = y at *
        generalize nodCuts k (l.take i) = L at *
        have hoA := (hO.alloc (.cells #[.int .i64 y.tr, .int .i64 y.cut, .int .i64 y.low, .int .i64 y.high, .int .i64 y.pts] 74)).alloc (.cells #[.int .i64 y.cut] 3)
        clear hR
        go_wp2_with (at_builtin; refine wpList_append_own_at _ rfl _ _ 26 rfl W1.heap.size 3 i4 _ 1 8 Try.underlying26 hi4 hq0 hq1 hq2 rfl (by decide) _ _ _ rfl hoA ⟨wr.heap.size + 1, 0, none⟩ 1 1 (intC y.cut) rfl rfl (by have := one_new (wr.alloc (.cells #[.int .i64 y.tr, .int .i64 y.cut, .int .i64 y.low, .int .i64 y.high, .int .i64 y.pts] 74)) y.cut 3; simpa using this) (intC_one _) (by unfold maxLen; omega) (by omega) (by have := hB1.size; simp; omega) ?_; intro v' w6 hown6 hg6 _ _; obtain ⟨A3, c3', rfl⟩ := own_slice hown6)
        have hbb : Below wr.heap.size wr ((wr.alloc (.cells #[.int .i64 y.tr, .int .i64 y.cut, .int .i64 y.low, .int .i64 y.high, .int .i64 y.pts] 74)).alloc (.cells #[.int .i64 y.cut] 3)) := bn.alloc bn.size _
        go_roundw
        case rel =>
          refine ⟨i + 1, A3, c3', hi1.out, by go_num, ?_, Lib.hid ⟨?_, ?_, ?_⟩⟩
          · rw [Hsn.out]; simp
          · rw [Hsn.out]; simpa using hown6
          · exact (hB.trans (hbb.mono hB.size)).grown hg6 (by simp; have := hB.size; omega) (fun k e => by have := (hoA.lt k e).1; omega)
          · exact (hB1.trans (hbb.mono hB1.size)).grown hg6 (by simp; have := hB1.size; omega) (fun k e => (hoA.lt k e).1)
        case measure => have h9 := hi1.out; simp [vInt]; omega
      · have hk2 : (l[i].tr == k) = false := by simpa using hk
        have Hsn := Lib.hid (nodCuts_no k l hlt hk)
        clear hsn hk
        generalize l[i] = y at *
        clear hR
        go_wp2_with fail
        go_roundw
        case rel => exact ⟨i + 1, A2, c2, hi1.out, by go_num, by rw [Hsn.out], Lib.hid ⟨by rw [Hsn.out]; exact hO.alloc _, hB.trans (bn.mono hB.size), hB1.trans (bn.mono hB1.size)⟩⟩
        case measure => have h9 := hi1.out; simp [vInt]; omega
    · have hil : ¬ (i : Int) < (l.length : Int) := by omega
      obtain rfl : i = l.length := by omega
      rw [List.take_length] at hO
      go_wp2_with fail
      go_ret
      exact ⟨A2, c2, by simp, own_base hO b1s, hB⟩
end Go.Proofs.Ytijhbcmmoagdmaa

namespace Go.Proofs.Ytijhbcmmoagdmaa
open Go.RowKit Go.Maps

theorem compactUp_props (d : Array Int) (n : Nat) (hs : ∀ i, i + 1 < n → d[i]! ≤ d[i + 1]!) : ∀ m, m ≤ n → (Lib.compactUpTo d m).Pairwise (· < ·) ∧ (∀ x, x ∈ Lib.compactUpTo d m ↔ ∃ j, j < m ∧ d[j]! = x) ∧ (∀ x ∈ Lib.compactUpTo d m, x ≤ d[m - 1]!)
  | 0, _ => ⟨by simp [Lib.compactUpTo], by simp [Lib.compactUpTo], by simp [Lib.compactUpTo]⟩
  | m + 1, hm => by
    obtain ⟨h1, h2, h3⟩ := compactUp_props d n hs m (by omega)
    rw [Lib.compactUpTo_succ]
    rcases Nat.eq_zero_or_pos m with rfl | hp
    · have hk : Lib.keeps d 0 = true := Lib.keeps_lt_one d 0 (by omega)
      rw [hk]
      simp only [if_true]
      have e0 : Lib.compactUpTo d 0 = [] := by simp [Lib.compactUpTo]
      rw [e0, List.nil_append]
      refine ⟨List.pairwise_singleton _ _, fun x => ?_, fun x hx => by rw [List.mem_singleton] at hx; subst hx; exact Int.le_refl _⟩
      rw [List.mem_singleton]
      constructor
      · rintro rfl; exact ⟨0, by omega, rfl⟩
      · rintro ⟨j, hj, rfl⟩; obtain rfl : j = 0 := by omega
        rfl
    · have hle := hs (m - 1) (by omega)
      rw [show m - 1 + 1 = m by omega] at hle
      rw [show m + 1 - 1 = m by omega]
      by_cases he : d[m]! = d[m - 1]!
      · rw [Lib.keeps_neg hp he]
        simp only [Bool.false_eq_true, if_false, List.append_nil]
        refine ⟨h1, fun x => ?_, fun x hx => by rw [he]; exact h3 x hx⟩
        rw [h2]
        constructor
        · rintro ⟨j, hj, e⟩; exact ⟨j, by omega, e⟩
        · rintro ⟨j, hj, e⟩
          rcases Nat.lt_or_ge j m with hj2 | hj2
          · exact ⟨j, hj2, e⟩
          · obtain rfl : j = m := by omega
            exact ⟨j - 1, by omega, by rw [← he]; exact e⟩
      · rw [Lib.keeps_pos he]
        simp only [if_true]
        refine ⟨List.pairwise_append.2 ⟨h1, List.pairwise_singleton _ _, fun x hx y hy => ?_⟩, fun x => ?_, fun x hx => ?_⟩
        · rw [List.mem_singleton] at hy; subst hy
          have := h3 x hx; omega
        · rw [List.mem_append, List.mem_singleton, h2]
          constructor
          · rintro (⟨j, hj, e⟩ | e)
            · exact ⟨j, by omega, e⟩
            · exact ⟨m, by omega, e.symm⟩
          · rintro ⟨j, hj, e⟩
            rcases Nat.lt_or_ge j m with hj2 | hj2
            · exact .inl ⟨j, hj2, e⟩
            · obtain rfl : j = m := by omega
              exact .inr e.symm
        · rcases List.mem_append.1 hx with hx | hx
          · have := h3 x hx; omega
          · rw [List.mem_singleton] at hx; subst hx; exact Int.le_refl _
theorem compact_sorted (l : List Int) : Lib.compact (l.mergeSort fun x y => decide (x ≤ y)) = ordI l := by
  have hp : (l.mergeSort fun x y => decide (x ≤ y)).Pairwise (fun x y => decide (x ≤ y) = true) := List.pairwise_mergeSort (by intro a b c h1 h2; simp at *; omega) (by intro a b; simp; omega) l
  generalize hz : (l.mergeSort fun x y => decide (x ≤ y)) = zs at *
  have hm : ∀ x, x ∈ zs ↔ x ∈ l := fun x => by rw [← hz]; exact List.mem_mergeSort
  have hs : ∀ i, i + 1 < zs.length → zs.toArray[i]! ≤ zs.toArray[i + 1]! := fun i hi => by
    have := List.pairwise_iff_getElem.1 hp i (i + 1) (by omega) hi (by omega)
    have h1 : i < zs.length := by omega
    simpa [h1, hi] using this
  obtain ⟨h1, h2, _⟩ := compactUp_props zs.toArray zs.length hs zs.length (Nat.le_refl _)
  refine incr_ext _ _ h1 (ordI_incr l) fun x => ?_
  show x ∈ Lib.compactUpTo zs.toArray zs.length ↔ _
  rw [h2, ordI_mem, ← hm]
  constructor
  · rintro ⟨j, hj, rfl⟩
    have : zs.toArray[j]! = zs[j] := by simp [hj]
    rw [this]; exact List.getElem_mem hj
  · intro hx
    obtain ⟨j, hj, rfl⟩ := List.getElem_of_mem hx
    exact ⟨j, hj, by simp [hj]⟩
end Go.Proofs.Ytijhbcmmoagdmaa

namespace Go.Proofs.Ytijhbcmmoagdmaa
open Go.RowKit Go.Maps

def partCuts (k : Int) : PartD → List Int
  | .scl x i => if (i : Int) = k then x.v.cuts else []
  | .tre y => nodCuts k y.v.nodes
def shCuts (k : Int) (y : ShD) : List Int := y.parts.flatMap (partCuts k)
def allCuts (k : Int) (sh : List ShD) : List Int := sh.flatMap (shCuts k)
structure CutOk (q : PartD) : Prop where
  scl : ∀ x i, q = .scl x i → x.v.cuts.length ≤ 10
  tre : ∀ y, q = .tre y → y.v.nodes.length ≤ 20
theorem partCuts_len {q : PartD} (h : CutOk q) (k : Int) : (partCuts k q).length ≤ 20 := by
  cases q with
  | scl x i => simp only [partCuts]; split; have := h.scl x i rfl; omega; simp
  | tre y => simp only [partCuts]; have := h.tre y rfl; have := nodCuts_len k y.v.nodes; omega
theorem cutsOf_any (q : PartD) (v : Value) (hv : partC q = [v]) (k : Int) (w : World) (h : PartAt w w.heap.size q) (hl : CutOk q) :
    Calls Try.prog 68 #[v, .int .i64 k] w fun e w' => ∃ A' c', e = .returned (.slice A' (partCuts k q).length c') ∧ w'.ownsRow w.heap.size 3 1 (.slice A' (partCuts k q).length c') (partCuts k q).length ((partCuts k q).flatMap intC) ∧ Below w.heap.size w w' := by
  cases q with
  | scl x i => simp only [partC, List.cons.injEq, and_true] at hv; subst hv; exact cutsOf_scl x i k w h (hl.scl x i rfl)
  | tre y => simp only [partC, List.cons.injEq, and_true] at hv; subst hv; exact cutsOf_tre y.v.weight y.v.nodes y.T y.t k w h (hl.tre y rfl)
theorem partC_val (q : PartD) : ∃ v, partC q = [v] := by cases q <;> exact ⟨_, rfl⟩
theorem flat_snoc {α β : Type} (f : α → List β) (l : List α) {i : Nat} (h : i < l.length) : (l.take (i + 1)).flatMap f = (l.take i).flatMap f ++ f l[i] := by
  rw [List.take_succ_eq_append_getElem h, List.flatMap_append]; simp
theorem putI_len : ∀ (l : List Int) (n : Int), (putI l n).length ≤ l.length + 1
  | [], n => by simp [putI]
  | y :: r, n => by
    unfold putI
    have := putI_len r n
    split
    · simp only [List.length_cons]; omega
    · split <;> simp
theorem foldl_len : ∀ (cs a : List Int), (cs.foldl putI a).length ≤ a.length + cs.length
  | [], a => by simp
  | c :: cs, a => by
    have := foldl_len cs (putI a c)
    have := putI_len a c
    rw [List.foldl_cons, List.length_cons]; omega
theorem ordI_len (cs : List Int) : (ordI cs).length ≤ cs.length := by have := foldl_len cs []; simpa [ordI] using this
theorem make_ints (T : Nat) (hT : T ≤ 1000) (W : World) : (Instr.makeSlice 78 (.int .i64 (T : Int)) (.int .i64 (T : Int))).run Try.prog W = .ok (.slice (some ⟨W.heap.size, 0, none⟩) T T) (W.alloc (.cells (madeCells #[.slice none 0 0] T) 26)) := by
  obtain ⟨i, hi, hz0, hz1, hz2⟩ := info_parts (show (Try.prog.info? 26).map (fun i => (i.zero, i.size, i.bytes)) = some (some (.slice none 0 0), 1, 24) by kernel_rfl)
  have := run_makeSlice (P := Try.prog) W 78 26 i _ Try.underlying78 hi hz0 .i64 .i64 (T : Int) (T : Int) (by omega) (Int.le_refl _) (by rw [hz1]; simp; omega) (by rw [hz2]; simp; omega) (by omega)
  rw [hz1, show (Value.slice none 0 0).cells = #[.slice none 0 0] from rfl] at this
  simpa using this
theorem acc_len (k : Int) (sh : List ShD) {i : Nat} (h : i < sh.length) (j : Nat) : ((sh.take i).flatMap (shCuts k) ++ (sh[i].parts.take j).flatMap (partCuts k)).length ≤ (allCuts k sh).length := by
  have h1 : (sh[i].parts.take j).flatMap (partCuts k) <+: shCuts k sh[i] := flat_prefix (partCuts k) (List.take_prefix j sh[i].parts)
  have h2 : (sh.take (i + 1)).flatMap (shCuts k) <+: allCuts k sh := flat_prefix (shCuts k) (List.take_prefix (i + 1) sh)
  rw [flat_snoc (shCuts k) sh h] at h2
  have h3 := h1.length_le
  have h4 := h2.length_le
  rw [List.length_append] at h4 ⊢
  omega
/-- The row of rows, the first k of which are there. -/
structure RowsC (W : World) (D og T k : Nat) (cs : Nat → List Int) (Cs : List CutD) : Prop where
  len : Cs.length = T
  own : W.ownsRow D 26 1 (.slice (some ⟨og, 0, none⟩) T T) T (Cs.flatMap cutC)
  each : ∀ q ∈ Cs, FlatP 1 intC W (fun b => D ≤ b ∧ b ≠ og) q.A q.l
  l : ∀ j, j < T → (Cs.getD j default).l = if j < k then ordI (cs j) else []
theorem rowsC_made (W : World) (D T : Nat) (cs : Nat → List Int) (hD : D ≤ W.heap.size) (hT : T ≤ 1000) : RowsC (W.alloc (.cells (madeCells #[.slice none 0 0] T) 26)) D W.heap.size T 0 cs (List.replicate T default) := by
  refine ⟨by simp, ?_, fun q hq => ?_, fun j hj => ?_⟩
  · have h := World.ownsRow_lit (size := 1) (e := 26) W (madeCells #[.slice none 0 0] T) T hD (by unfold maxLen; omega) (by rw [size_madeCells]; simp)
    rw [toList_madeCells_one] at h
    have e : (List.replicate T (default : CutD)).flatMap cutC = List.replicate T (Value.slice none 0 0) := by
      clear h hD hT
      induction T with
      | zero => rfl
      | succ T ih => rw [List.replicate_succ, List.flatMap_cons, ih, List.replicate_succ]; rfl
    rw [e]
    exact h
  · rw [List.eq_of_mem_replicate hq]
    intro k hk
    exact absurd hk (by simp [default])
  · rw [if_neg (by omega)]; simp [hj]; rfl
theorem RowsC.below {W W' : World} {D og T k : Nat} {cs : Nat → List Int} {Cs : List CutD} (h : RowsC W D og T k cs Cs) (hb : Below W.heap.size W W') : RowsC W' D og T k cs Cs :=
  ⟨h.len, own_below h.own hb, fun q hq => (h.each q hq).move (Fr.below hb), h.l⟩
theorem RowsC.put {W W' : World} {D og T k c' : Nat} {cs : Nat → List Int} {Cs : List CutD} {A' : Option Addr} (h : RowsC W D og T k cs Cs) (hk : k < T) (hb : Below W.heap.size W W') (hA : FlatP 1 intC W' (fun b => W.heap.size ≤ b) A' (ordI (cs k))) (hog : og < W.heap.size) (hD : D ≤ W.heap.size) :
    RowsC (W'.setCell ⟨og, k, none⟩ (.slice A' (ordI (cs k)).length c')) D og T (k + 1) cs (Cs.set k ⟨ordI (cs k), A', c'⟩) := by
  have hF : Fr (fun b => b ≠ og) W' (W'.setCell ⟨og, k, none⟩ (.slice A' (ordI (cs k)).length c')) := Fr.set (p := ⟨og, k, none⟩) (fun e => e rfl) _
  refine ⟨by rw [List.length_set]; exact h.len, ?_, fun q hq => ?_, fun j hj => ?_⟩
  · have e1 := flat_set cutC_len Cs k (by rw [h.len]; exact hk) ⟨ordI (cs k), A', c'⟩ 0 (.slice A' (ordI (cs k)).length c') (by omega) rfl
    rw [Nat.mul_one, Nat.add_zero] at e1
    rw [e1]
    exact ((own_below h.own hb).stored k (.slice A' (ordI (cs k)).length c')).1
  · rcases List.mem_or_eq_of_mem_set hq with h1 | h1
    · exact ((h.each q h1).move (Fr.below hb)).move (hF.imp (fun b hp => hp.2))
    · subst h1
      exact (hA.imp (Q := fun b => D ≤ b ∧ b ≠ og) (fun b _ hp => ⟨by omega, by omega⟩)).move (hF.imp (fun b hp => hp.2))
  · rw [List.getD_eq_getElem?_getD, List.getElem?_set]
    by_cases hjk : k = j
    · subst hjk
      rw [if_pos rfl, if_pos (by rw [h.len]; exact hk), if_pos (by omega)]; rfl
    · rw [if_neg hjk, ← List.getD_eq_getElem?_getD, h.l j hj]
      by_cases hlt : j < k
      · rw [if_pos hlt, if_pos (by omega)]
      · rw [if_neg hlt, if_neg (by omega)]

set_option maxRecDepth 100000 in
set_option maxHeartbeats 8000000 in
theorem cuts_any (T : Nat) (hT : T ≤ 1000) (need : Int) (C T' S : Option Addr) (cl c tl t s : Nat) (sh : List ShD) (w : World) (h : SharesAt w w.heap.size S sh) (hsl : sh.length ≤ 12) (hpl : ∀ y ∈ sh, y.parts.length ≤ 10) (hok : ∀ y ∈ sh, ∀ q ∈ y.parts, CutOk q) (hal : ∀ k : Nat, (allCuts (k : Int) sh).length ≤ 1000)
    (HAs : ∀ (A : Option Addr) (c : Nat) (zs : List Int), zs.length ≤ 1000 → ∀ w, IntsAt w w.heap.size A zs → Calls Try.prog 69 #[.slice A zs.length c] w fun e w' => ∃ A' c', e = .returned (.slice A' (ordI zs).length c') ∧ FlatP 1 intC w' (fun b => w.heap.size ≤ b) A' (ordI zs) ∧ Below w.heap.size w w') :
    Calls Try.prog 65 #[.agg #[.int .i64 (T : Int), .slice C cl c, .slice T' tl t, .int .i64 need, .slice S sh.length s]] w (CutsS w T (fun k => allCuts k sh)) := by
  obtain ⟨i4, hi4, hq0, hq1, hq2⟩ := info_parts intInfo
  have hmk := make_ints T hT
  have b1 := (Below.refl w.heap.size w).alloc (Nat.le_refl _) (.cells #[.int .i64 (T : Int), .slice C cl c, .slice T' tl t, .int .i64 need, .slice S sh.length s] 62)
  have k1 := Blk.new w #[.int .i64 (T : Int), .slice C cl c, .slice T' tl t, .int .i64 need, .slice S sh.length s] 62
  have k1c := k1.cell
  have k2c := (k1.alloc (.cells (madeCells #[.slice none 0 0] T) 26)).cell
  have hk2 := k1.alloc (.cells (madeCells #[.slice none 0 0] T) 26)
  have b2 := b1.alloc b1.size (.cells (madeCells #[.slice none 0 0] T) 26)
  have hR0 := rowsC_made (w.alloc (.cells #[.int .i64 (T : Int), .slice C cl c, .slice T' tl t, .int .i64 need, .slice S sh.length s] 62)) w.heap.size T (fun k => allCuts k sh) (by simp) hT
  rw [show (w.alloc (.cells #[.int .i64 (T : Int), .slice C cl c, .slice T' tl t, .int .i64 need, .slice S sh.length s] 62)).heap.size = w.heap.size + 1 by simp] at hR0
  have hz2 : ((w.alloc (.cells #[.int .i64 (T : Int), .slice C cl c, .slice T' tl t, .int .i64 need, .slice S sh.length s] 62)).alloc (.cells (madeCells #[.slice none 0 0] T) 26)).heap.size = w.heap.size + 2 := by simp
  have Hh := Lib.hid h
  go_enter Try.func65, Try.ntmps65
  go_wp2_with fail
  generalize (w.alloc (.cells #[.int .i64 (T : Int), .slice C cl c, .slice T' tl t, .int .i64 need, .slice S sh.length s] 62)).alloc (.cells (madeCells #[.slice none 0 0] T) 26) = W2 at *
  have HR0 := Lib.hid hR0
  clear hR0 h k1 k1c b1 k2c
  go_loopw [16] (fun ii wr => ∃ (k : Nat) (Cs : List CutD), k ≤ T ∧ ii = .int .i64 k ∧ Hid (RowsC wr w.heap.size (w.heap.size + 1) T k (fun k => allCuts k sh) Cs ∧ Below w.heap.size w wr ∧ Blk wr w.heap.size #[.int .i64 (T : Int), .slice C cl c, .slice T' tl t, .int .i64 need, .slice S sh.length s] 62 ∧ w.heap.size + 2 ≤ wr.heap.size)) (fun ii _ => T - (vInt ii).toNat)
  case atStart => exact ⟨0, _, Nat.zero_le _, rfl, Lib.hid ⟨HR0.out, b2, hk2, by omega⟩⟩
  clear HR0
  case round =>
    obtain ⟨k, Cs, hk, rfl, hR⟩ := hrel
    generalize wr = wa at *
    obtain ⟨hC, hB, hKm, hsz⟩ := hR.out
    by_cases hlt : k < T
    · have hil : (k : Int) < (T : Int) := by omega
      have hk1 := Lib.hid (show k + 1 ≤ T by omega)
      have kmc := hKm.cell
      have HC := Lib.hid hC
      have HB := Lib.hid hB
      have HKm := Lib.hid hKm
      clear hR hC hB hKm
      go_wp2_with fail
      go_loopw [5, 22] (fun ll ii wr => ∃ (i : Nat) (A' : Option Addr) (c' : Nat), i ≤ sh.length ∧ ii = .int .i64 i ∧ ll = .slice A' ((sh.take i).flatMap (shCuts k)).length c' ∧ Hid (wr.ownsRow wa.heap.size 3 1 (.slice A' ((sh.take i).flatMap (shCuts k)).length c') ((sh.take i).flatMap (shCuts k)).length (((sh.take i).flatMap (shCuts k)).flatMap intC) ∧ Below wa.heap.size wa wr)) (fun _ ii _ => sh.length - (vInt ii).toNat)
      case atStart => exact ⟨0, none, 0, Nat.zero_le _, rfl, rfl, Lib.hid ⟨World.ownsRow_nil _ _ _ _, Below.refl _ _⟩⟩
      case round =>
        obtain ⟨i, A2, c2, hi, rfl, rfl, hR2⟩ := hrel
        obtain ⟨hO, hB2⟩ := hR2.out
        by_cases hlt2 : i < sh.length
        · have hil2 : (i : Int) < (sh.length : Int) := by omega
          have hi1 := Lib.hid (show i + 1 ≤ sh.length by omega)
          have hSh := Hh.out.later (HB.out.trans (hB2.mono HB.out.size))
          obtain ⟨b, off, rfl, hb, c0, c1, c3⟩ := shs_at hSh.row hlt2
          have hmem := List.getElem_mem hlt2
          have HPy := Lib.hid (fun W (hb : Below wa.heap.size wa W) => (Hh.out.later (HB.out.trans (hb.mono HB.out.size))).each _ hmem)
          have HPl := hpl _ hmem
          have Hok := Lib.hid (hok _ hmem)
          have HAc := Lib.hid (fun j => Nat.le_trans (acc_len k sh hlt2 j) (hal k))
          have HSn := Lib.hid (show (sh.take (i + 1)).flatMap (shCuts (k : Int)) = (sh.take i).flatMap (shCuts (k : Int)) ++ sh[i].parts.flatMap (partCuts (k : Int)) from flat_snoc (shCuts (k : Int)) sh hlt2)
          have hsz2 := hB2.size
          have ba := (Below.refl wr.heap.size wr).alloc (Nat.le_refl _) (.cells #[.int .i64 sh[i].weight, .int .i64 sh[i].base, .slice sh[i].P sh[i].parts.length sh[i].p] 84)
          have kn := Blk.new wr #[.int .i64 sh[i].weight, .int .i64 sh[i].base, .slice sh[i].P sh[i].parts.length sh[i].p] 84
          have knc := kn.cell
          have HO3 := Lib.hid (own_below hO ba)
          have HB3 := Lib.hid (hB2.trans (ba.mono hB2.size))
          have HBa := Lib.hid ba
          clear hR2 hO hB2 hSh hmem ba
          generalize sh[i] = y at *
          obtain ⟨weight, base, parts, P, p⟩ := y
          dsimp only at *
          generalize (sh.take i).flatMap (shCuts k) = acc at *
          go_wp2_with fail
          generalize hW3 : wr.alloc (.cells #[.int .i64 weight, .int .i64 base, .slice P parts.length p] 84) = W3 at *
          clear hW3 kn knc c0 c1 c3
          have hsz3 := HB3.out.size
          go_loopw [5, 29] (fun ll ii wq => ∃ (j : Nat) (A' : Option Addr) (c' : Nat), j ≤ parts.length ∧ ii = .int .i64 j ∧ ll = .slice A' (acc ++ (parts.take j).flatMap (partCuts k)).length c' ∧ Hid (wq.ownsRow wa.heap.size 3 1 (.slice A' (acc ++ (parts.take j).flatMap (partCuts k)).length c') (acc ++ (parts.take j).flatMap (partCuts k)).length ((acc ++ (parts.take j).flatMap (partCuts k)).flatMap intC) ∧ Below wa.heap.size wa wq)) (fun _ ii _ => parts.length - (vInt ii).toNat)
          case atStart => exact ⟨0, A2, c2, Nat.zero_le _, rfl, by simp, Lib.hid ⟨by simpa using HO3.out, HB3.out⟩⟩
          case round =>
            generalize wr = wq0 at *
            obtain ⟨j, A3, c3, hj, rfl, rfl, hR3⟩ := hrel
            obtain ⟨hO, hB3⟩ := hR3.out
            by_cases hlt3 : j < parts.length
            · have hil3 : (j : Int) < (parts.length : Int) := by omega
              have hj1 := Lib.hid (show j + 1 ≤ parts.length by omega)
              have hPy := HPy.out wq0 hB3
              obtain ⟨b3, off3, rfl, hb3, hc3⟩ := hPy.row j hlt3
              have hmem3 := List.getElem_mem hlt3
              obtain ⟨v, hv⟩ := partC_val parts[j]
              have hc9 := hc3 0 (by omega)
              rw [Nat.mul_one, Nat.add_zero] at hc9
              have hc0 : wq0.cell? ⟨b3, off3 + j, none⟩ = some v := hc9.trans (congrArg (fun l => l[0]?) hv)
              clear hc9
              have HCO := Lib.hid (cutsOf_any parts[j] v hv (k : Int) wq0 (hPy.each _ hmem3) (Hok.out _ hmem3))
              have HPn := partCuts_len (Hok.out _ hmem3) (k : Int)
              have HA0 := HAc.out j
              have HSn3 := Lib.hid (flat_snoc (partCuts (k : Int)) parts hlt3)
              have HO := Lib.hid hO
              have hsz4 := hB3.size
              clear hR3 hO hPy hmem3 hc3 hv
              generalize partCuts (k : Int) parts[j] = pc at *
              generalize (parts.take j).flatMap (partCuts (k : Int)) = acd at *
              obtain ⟨ax, Hax⟩ : ∃ z, Hid (z = acc ++ acd) := ⟨_, Lib.hid rfl⟩
              rw [← Hax.out] at HO HA0 ⊢
              go_wp2_with (first
                | (go_at_call 68; (with_reducible refine (HCO.out).mono ?_); rintro e w5 ⟨A5, c5, rfl, o5, h5⟩; have oL := own_below HO.out h5; have f5 : Flat 1 intC w5 w5.heap.size A5 pc := Flat.of_own intC_len (by decide) o5; have h5s := h5.size)
                | (at_builtin; refine wpList_append_src _ rfl (.tmp 33) (.tmp 36) 26 rfl wa.heap.size 3 i4 _ 1 8 Try.underlying26 hi4 hq0 hq1 hq2 rfl (by decide) _ _ _ rfl oL A5 pc.length c5 (pc.flatMap intC) rfl (flat_len intC_len pc) (fun e => by subst e; exact Flat.none_ f5) (Flat.news intC_len (by decide) f5) (flat_ones intC_one pc) (by unfold maxLen; omega) (by omega) (by omega) ?_; intro v6 w6 hown6 hg6 _; obtain ⟨A6, c6, rfl⟩ := own_slice hown6))
              have hB6 := (hB3.trans (h5.mono hB3.size)).grown hg6 (by omega) (fun k e => (oL.lt k e).1)
              have hle : acc ++ (acd ++ pc) = ax ++ pc := by rw [Hax.out, List.append_assoc]
              go_roundw
              case rel =>
                refine ⟨j + 1, A6, c6, hj1.out, by go_num, ?_, Lib.hid ⟨?_, hB6⟩⟩
                · rw [HSn3.out, hle, List.length_append]
                · rw [HSn3.out, hle, List.length_append, List.flatMap_append]; exact hown6
              case measure => have h9 := hj1.out; simp [vInt]; omega
            · have hil3 : ¬ (j : Int) < (parts.length : Int) := by omega
              obtain rfl : j = parts.length := by omega
              rw [List.take_length] at hO
              go_wp2_with fail
              go_roundw
              case rel => exact ⟨i + 1, A3, c3, hi1.out, by go_num, by rw [HSn.out, List.take_length], Lib.hid ⟨by rw [HSn.out]; exact hO, hB3⟩⟩
              case measure => have h9 := hi1.out; simp [vInt]; omega
        · have hil2 : ¬ (i : Int) < (sh.length : Int) := by omega
          obtain rfl : i = sh.length := by omega
          have htk : (sh.take sh.length).flatMap (shCuts (k : Int)) = allCuts (k : Int) sh := by rw [List.take_length]; rfl
          have hallk := hal k
          obtain ⟨ac, Hac⟩ : ∃ z, Hid (z = allCuts (k : Int) sh) := ⟨_, Lib.hid rfl⟩
          rw [htk, ← Hac.out] at hO ⊢
          rw [← Hac.out] at hallk
          have HAs1 := Lib.hid (HAs A2 c2 ac hallk wr (Flat.of_own intC_len (by decide) hO))
          have hcc := HC.out.own
          have hogl := (hcc.lt _ rfl).2
          have hB2s := hB2.size
          have HB2 := Lib.hid hB2
          have hcl0 : ∃ u, wa.cell? ⟨w.heap.size + 1, k, none⟩ = some u := by
            have h9 := hcc.cellAt k (by omega)
            have h8 : k < (Cs.flatMap cutC).length := by rw [flat_len cutC_len, HC.out.len]; omega
            rw [List.getElem?_eq_getElem h8] at h9
            exact ⟨_, h9⟩
          obtain ⟨u0, hu0⟩ := hcl0
          have hfz := hcc.frozenAt k
          clear hR2 hO hB2 htk
          go_wp2_with (go_at_call 69; (with_reducible refine (HAs1.out).mono ?_); rintro e w7 ⟨A7, c7, rfl, f7, h7⟩; have h7c := ((HB2.out.trans (h7.mono HB2.out.size)).cell (p := ⟨w.heap.size + 1, k, none⟩) hogl).trans hu0; have h7f := ((bcell (HB2.out.trans (h7.mono HB2.out.size))).2 (w.heap.size + 1) k hogl).trans hfz)
          go_roundw
          case rel =>
            have e := Hac.out
            subst e
            have hb7 := HB2.out.trans (h7.mono HB2.out.size)
            have h7s := h7.size
            refine ⟨k + 1, _, hk1.out, by go_num, Lib.hid ⟨RowsC.put HC.out hlt hb7 (f7.imp (fun b _ hp => by omega)) hogl (by omega), ?_, ?_, ?_⟩⟩
            · exact (HB.out.trans (hb7.mono HB.out.size)).setCell (p := ⟨w.heap.size + 1, k, none⟩) (by show w.heap.size ≤ w.heap.size + 1; omega) _
            · exact (Below.heap_setCell _ _ _ _ (by show w.heap.size ≠ w.heap.size + 1; omega)).trans (HKm.out.below hb7 HKm.out.lt)
            · simp; have := hb7.size; omega
          case measure => have h9 := hk1.out; simp [vInt]; omega
    · have hil : ¬ (k : Int) < (T : Int) := by omega
      obtain rfl : k = T := by omega
      go_wp2_with fail
      go_ret
      have hown := hC.own
      rw [← hC.len] at hown
      refine ⟨some ⟨w.heap.size + 1, 0, none⟩, k, Cs, by simp, hC.len, FlatP.of_own cutC_len (by decide) hown (fun b hb _ _ => hb), fun q hq => (hC.each q hq).imp (fun b _ hp => hp.1), fun j => ?_, fun q hq => ?_, hB⟩
      · by_cases hj : j < k
        · rw [hC.l j hj]
        · rw [if_neg hj, List.getD_eq_getElem?_getD, List.getElem?_eq_none (by rw [hC.len]; omega)]; rfl
      · obtain ⟨j, hj, rfl⟩ := List.getElem_of_mem hq
        have h8 := hC.l j (by rw [← hC.len]; exact hj)
        rw [getD_lt Cs default hj, if_pos (by rw [← hC.len]; exact hj)] at h8
        rw [h8]
        exact Nat.le_trans (ordI_len _) (hal _)
end Go.Proofs.Ytijhbcmmoagdmaa

namespace Go.Proofs.Ytijhbcmmoagdmaa
open Go.RowKit Go.Maps

theorem range_pick {α : Type} (f : Nat → List α) (k : Nat) : ∀ n, (List.range n).flatMap (fun i => if i = k then f i else []) = if k < n then f k else []
  | 0 => by simp
  | n + 1 => by
    rw [List.range_succ, List.flatMap_append, range_pick f k n]
    by_cases h1 : k < n
    · have h2 : ¬ n = k := by omega
      simp [h1, h2, show k < n + 1 by omega]
    · by_cases h3 : n = k
      · subst h3; simp
      · simp [h1, h3, show ¬ k < n + 1 by omega]
theorem cardCuts_eq (l : List SclD) (k : Nat) : (cardParts l).flatMap (partCuts (k : Int)) = ((l.map SclD.v).getD k default).cuts := by
  unfold cardParts
  rw [List.flatMap_map]
  have e : (fun i => partCuts (k : Int) (.scl (l.getD i default) i)) = fun i => if i = k then (l.getD i default).v.cuts else [] := by
    funext i
    simp only [partCuts]
    by_cases h : i = k
    · subst h; simp
    · rw [if_neg (by omega), if_neg h]
  rw [e, range_pick]
  by_cases h : k < l.length
  · rw [if_pos h, getD_lt l default h, getD_lt (l.map SclD.v) default (by simpa using h), List.getElem_map]
  · rw [if_neg h, List.getD_eq_getElem?_getD, List.getElem?_eq_none (by simpa using h)]; rfl
theorem allCuts_eq {traits need : Int} {cl : List CrdD} {tl : List TreD} {sh : List ShD} (h : sh.map ShD.core = cl.map crdCore ++ tl.map treCore) (k : Nat) : allCuts (k : Int) sh = cutsT ⟨traits, cl.map CrdD.v, tl.map TreD.v, need⟩ k := by
  have e1 : allCuts (k : Int) sh = (sh.map ShD.core).flatMap fun c => c.2.2.flatMap (partCuts (k : Int)) := by
    rw [List.flatMap_map]; rfl
  rw [e1, h, List.flatMap_append, List.flatMap_map, List.flatMap_map]
  unfold cutsT
  rw [List.flatMap_map, List.flatMap_map]
  congr 1
  · congr 1
    funext c
    exact cardCuts_eq c.scales k
  · congr 1
    funext t
    simp [treCore, partCuts]
theorem flatMap_len {α β : Type} {f : α → List β} {b : Nat} : ∀ {l : List α}, (∀ x ∈ l, (f x).length ≤ b) → (l.flatMap f).length ≤ l.length * b
  | [], _ => by simp
  | x :: l, h => by
    have h1 := h x (List.mem_cons_self ..)
    have h2 := flatMap_len (l := l) (fun y hy => h y (List.mem_cons_of_mem _ hy))
    rw [List.flatMap_cons, List.length_append, List.length_cons, Nat.succ_mul]; omega
theorem cutsT_len {traits need : Int} {cl : List CrdD} {tl : List TreD} {C T : Option Addr} {c t : Nat} (hls : MdlLe ⟨traits, cl, C, c, tl, T, t, need⟩) (k : Nat) : (cutsT ⟨traits, cl.map CrdD.v, tl.map TreD.v, need⟩ k).length ≤ 1000 := by
  unfold cutsT
  rw [List.length_append]
  have h1 : ((cl.map CrdD.v).flatMap fun c => (c.scales.getD k default).cuts).length ≤ (cl.map CrdD.v).length * 10 := flatMap_len fun x hx => by
    obtain ⟨y, hy, rfl⟩ := List.mem_map.1 hx
    show ((y.scales.map SclD.v).getD k default).cuts.length ≤ 10
    by_cases hk : k < y.scales.length
    · rw [getD_lt (y.scales.map SclD.v) default (by simpa using hk), List.getElem_map]
      exact (hls.scl y hy _ (List.getElem_mem hk)).cuts
    · rw [List.getD_eq_getElem?_getD, List.getElem?_eq_none (by simpa using hk)]; exact Nat.zero_le _
  have h2 : ((tl.map TreD.v).flatMap fun t => nodCuts (k : Int) t.nodes).length ≤ (tl.map TreD.v).length * 20 := flatMap_len fun x hx => by
    obtain ⟨y, hy, rfl⟩ := List.mem_map.1 hx
    exact Nat.le_trans (nodCuts_len _ _) (hls.nodes y hy)
  have h3 := hls.cards
  have h4 := hls.trees
  rw [List.length_map] at h1 h2
  simp only at h3 h4 ⊢
  omega
theorem parts_ok {traits need : Int} {cl : List CrdD} {tl : List TreD} {C T : Option Addr} {c t : Nat} {sh : List ShD} (hls : MdlLe ⟨traits, cl, C, c, tl, T, t, need⟩) (h : sh.map ShD.core = cl.map crdCore ++ tl.map treCore) : ∀ y ∈ sh, y.parts.length ≤ 10 ∧ ∀ q ∈ y.parts, CutOk q := fun y hy => by
  rcases core_cases h y hy with ⟨x, hx, _, _, e⟩ | ⟨x, hx, _, _, e⟩
  · rw [e]
    refine ⟨by rw [cardParts_len]; exact hls.scales x hx, fun q hq => ?_⟩
    obtain ⟨z, k, hz, _, rfl⟩ := cardParts_mem hq
    exact ⟨fun x' i e' => by cases e'; exact (hls.scl x hx z hz).cuts, fun y' e' => by cases e'⟩
  · rw [e]
    refine ⟨by simp, fun q hq => ?_⟩
    rw [List.mem_singleton] at hq
    subst hq
    exact ⟨fun x' i e' => (by cases e'), fun y' e' => (by cases e'; exact hls.nodes x hx)⟩
theorem stepsI_ne (lo hi : Int) (cs : List Int) : stepsI lo hi cs ≠ [] := fun e => by
  have := (stepsI_mem lo hi cs lo).2 (.inl rfl)
  rw [e] at this; cases this
theorem vecs_ne : ∀ {L : List (List Int)}, (∀ l ∈ L, l ≠ []) → vecs L ≠ []
  | [], _ => by simp [vecs]
  | l :: L, h => by
    obtain ⟨x, hx⟩ := List.exists_mem_of_ne_nil l (h l (List.mem_cons_self ..))
    obtain ⟨v, hv⟩ := List.exists_mem_of_ne_nil _ (vecs_ne (L := L) fun y hy => h y (List.mem_cons_of_mem _ hy))
    intro e
    have : (x :: v) ∈ vecs (l :: L) := List.mem_flatMap.2 ⟨x, hx, List.mem_map.2 ⟨v, hv, rfl⟩⟩
    rw [e] at this; cases this
theorem listsS_eq {traits need : Int} {cl : List CrdD} {tl : List TreD} {sh : List ShD} {T : Nat} {sp : List Spn} (h : sh.map ShD.core = cl.map crdCore ++ tl.map treCore) (hT : sp.length = T) : listsS T sp (fun k => allCuts (k : Int) sh) = vecs (stepsL ⟨traits, cl.map CrdD.v, tl.map TreD.v, need⟩ sp) := by
  subst hT
  unfold listsS stepsL
  congr 1
  apply List.map_congr_left
  intro k _
  simp only
  rw [allCuts_eq (traits := traits) (need := need) h k]
theorem listsS_ne (T : Nat) (sp : List Spn) (cs : Nat → List Int) : listsS T sp cs ≠ [] := vecs_ne fun l hl => by
  obtain ⟨k, _, rfl⟩ := List.mem_map.1 hl
  exact stepsI_ne _ _ _
end Go.Proofs.Ytijhbcmmoagdmaa

namespace Go.Proofs.Ytijhbcmmoagdmaa
open Go.RowKit Go.Maps

theorem sp_put {w : World} {g : Nat} {a0 a1 c0 c1 : Value} {t : TypeId} (h : Blk w g #[a0, a1] t) : Blk ((w.setCell ⟨g, 0, none⟩ c0).setCell ⟨g, 1, none⟩ c1) g #[c0, c1] t := by
  have := (h.set 0 c0).set 1 c1
  simpa using this
set_option maxRecDepth 100000 in
set_option maxHeartbeats 4000000 in
theorem betweenP_bad (traits need : Int) (cl : List CrdD) (tl : List TreD) (C T : Option Addr) (c t : Nat) (sp : List Spn) (SA : Option Addr) (sc : Nat) (w : World) (h : MdlAt w w.heap.size ⟨traits, cl, C, c, tl, T, t, need⟩) (hls : MdlLe ⟨traits, cl, C, c, tl, T, t, need⟩) (hq : mdlB ⟨traits, cl.map CrdD.v, tl.map TreD.v, need⟩ = false) :
    Calls Try.prog 15 #[.agg #[.int .i64 traits, .slice C cl.length c, .slice T tl.length t, .int .i64 need], .slice SA sp.length sc] w fun e w' => e = .returned (.tuple #[.agg #[.int .i64 0, .int .i64 0], .int .i64 60]) ∧ Below w.heap.size w w' := by
  have b1 := (Below.refl w.heap.size w).alloc (Nat.le_refl _) (.cells #[.int .i64 traits, .slice C cl.length c, .slice T tl.length t, .int .i64 need] 25)
  have k1 := Blk.new w #[.int .i64 traits, .slice C cl.length c, .slice T tl.length t, .int .i64 need] 25
  have k1c := k1.cell
  have b1s := b1.size
  have b2 := b1.alloc b1s (.cells #[.int .i64 0, .int .i64 0] 45)
  have k2 := k1.alloc (.cells #[.int .i64 0, .int .i64 0] 45)
  have kr := newAt' (w.alloc (.cells #[.int .i64 traits, .slice C cl.length c, .slice T tl.length t, .int .i64 need] 25)) #[.int .i64 0, .int .i64 0] 45 (g := w.heap.size + 1) (by simp)
  have HC := Lib.hid (fun W hb => open_bad traits need cl tl C T c t W (h.later (w' := W) hb) hls hq)
  go_enter Try.func15, Try.ntmps15
  go_wp2_with fail
  generalize hW2 : (w.alloc (.cells #[.int .i64 traits, .slice C cl.length c, .slice T tl.length t, .int .i64 need] 25)).alloc (.cells #[.int .i64 0, .int .i64 0] 45) = W2 at *
  have hs2 := kr.lt
  clear hW2 k1c k1 b1 b1s h
  have b2s := b2.size
  go_wp2_with (go_at_call 30; (with_reducible refine (HC.out _ b2).mono ?_); rintro e w5 ⟨rfl, h5⟩; have b5 := b2.trans (h5.mono b2s); have k5 := (kr.below h5 hs2).alloc (.cells #[.int .i64 0, .slice none 0 0, .slice none 0 0, .int .i64 0, .slice none 0 0] 62); have k5c := k5.cell; have z0 := k5.free 0; have z1 := k5.free 1)
  have hrc := (sp_put (c0 := .int .i64 0) (c1 := .int .i64 0) k5).cell
  exact bodyPost_ret (v := .tuple #[.agg #[.int .i64 0, .int .i64 0], .int .i64 60]) (by simp [results, Try.results15, go_sem, hrc]) rfl ⟨rfl, ((b5.alloc b5.size (.cells #[.int .i64 0, .slice none 0 0, .slice none 0 0, .int .i64 0, .slice none 0 0] 62)).setCell (p := ⟨w.heap.size + 1, 0, none⟩) (by simp) _).setCell (p := ⟨w.heap.size + 1, 1, none⟩) (by simp) _⟩

set_option maxRecDepth 100000 in
set_option maxHeartbeats 4000000 in
theorem betweenP_spans (traits need : Int) (cl : List CrdD) (tl : List TreD) (C T : Option Addr) (c t : Nat) (sp : List Spn) (SA : Option Addr) (sc : Nat) (w : World) (h : MdlAt w w.heap.size ⟨traits, cl, C, c, tl, T, t, need⟩) (hls : MdlLe ⟨traits, cl, C, c, tl, T, t, need⟩) (hx : SpnsAt w w.heap.size SA sp) (hxl : sp.length ≤ 10) (hq : mdlB ⟨traits, cl.map CrdD.v, tl.map TreD.v, need⟩ = true) (hv : spnsB traits sp = false) :
    Calls Try.prog 15 #[.agg #[.int .i64 traits, .slice C cl.length c, .slice T tl.length t, .int .i64 need], .slice SA sp.length sc] w fun e w' => e = .returned (.tuple #[.agg #[.int .i64 0, .int .i64 0], .int .i64 61]) ∧ Below w.heap.size w w' := by
  have b1 := (Below.refl w.heap.size w).alloc (Nat.le_refl _) (.cells #[.int .i64 traits, .slice C cl.length c, .slice T tl.length t, .int .i64 need] 25)
  have k1 := Blk.new w #[.int .i64 traits, .slice C cl.length c, .slice T tl.length t, .int .i64 need] 25
  have k1c := k1.cell
  have b1s := b1.size
  have b2 := b1.alloc b1s (.cells #[.int .i64 0, .int .i64 0] 45)
  have k2 := k1.alloc (.cells #[.int .i64 0, .int .i64 0] 45)
  have kr := newAt' (w.alloc (.cells #[.int .i64 traits, .slice C cl.length c, .slice T tl.length t, .int .i64 need] 25)) #[.int .i64 0, .int .i64 0] 45 (g := w.heap.size + 1) (by simp)
  have HC := Lib.hid (fun W hb => open_all traits need cl tl C T c t W (h.later (w' := W) hb) hls hq)
  have HV := Lib.hid (fun (S : Option Addr) (n s : Nat) W hb => spansV_any traits need C T S cl.length c tl.length t n s sp SA sc W (hx.later (w' := W) hb) hxl)
  rw [hv] at HV
  clear hx
  go_enter Try.func15, Try.ntmps15
  go_wp2_with fail
  generalize hW2 : (w.alloc (.cells #[.int .i64 traits, .slice C cl.length c, .slice T tl.length t, .int .i64 need] 25)).alloc (.cells #[.int .i64 0, .int .i64 0] 45) = W2 at *
  have hs2 := kr.lt
  clear hW2 k1c k1 b1 b1s h
  have b2s := b2.size
  go_wp2_with (first
    | (go_at_call 30; (with_reducible refine (HC.out _ b2).mono ?_); rintro e w5 ⟨S, s, sh, rfl, _, _, h5⟩; have b5 := b2.trans (h5.mono b2s); have b5a := b5.alloc b5.size (.cells #[.int .i64 traits, .slice C cl.length c, .slice T tl.length t, .int .i64 need, .slice S (cl.length + tl.length) s] 62); have k5 := (kr.below h5 hs2).alloc (.cells #[.int .i64 traits, .slice C cl.length c, .slice T tl.length t, .int .i64 need, .slice S (cl.length + tl.length) s] 62); have k5c := k5.cell; have kw := Blk.new w5 #[.int .i64 traits, .slice C cl.length c, .slice T tl.length t, .int .i64 need, .slice S (cl.length + tl.length) s] 62; have kwc := kw.cell)
    | (go_at_call 31; (with_reducible refine (HV.out S (cl.length + tl.length) s _ b5a).mono ?_); rintro e w6 ⟨rfl, h6⟩; have b6 := b5a.trans (h6.mono b5a.size); have k6 := k5.below h6 k5.lt; have k6c := k6.cell; have z0 := k6.free 0; have z1 := k6.free 1))
  have hrc := (sp_put (c0 := .int .i64 0) (c1 := .int .i64 0) k6).cell
  exact bodyPost_ret (v := .tuple #[.agg #[.int .i64 0, .int .i64 0], .int .i64 61]) (by simp [results, Try.results15, go_sem, hrc]) rfl ⟨rfl, (b6.setCell (p := ⟨w.heap.size + 1, 0, none⟩) (by simp) _).setCell (p := ⟨w.heap.size + 1, 1, none⟩) (by simp) _⟩

set_option maxRecDepth 100000 in
set_option maxHeartbeats 4000000 in
theorem betweenP_good (traits need : Int) (cl : List CrdD) (tl : List TreD) (C T : Option Addr) (c t : Nat) (sp : List Spn) (SA : Option Addr) (sc : Nat) (w : World) (h : MdlAt w w.heap.size ⟨traits, cl, C, c, tl, T, t, need⟩) (hls : MdlLe ⟨traits, cl, C, c, tl, T, t, need⟩) (hx : SpnsAt w w.heap.size SA sp) (hxl : sp.length ≤ 10) (hq : mdlB ⟨traits, cl.map CrdD.v, tl.map TreD.v, need⟩ = true) (hv : spnsB traits sp = true) (lo hi : Int) (HBT : ∀ (S : Option Addr) (s : Nat) (sh : List ShD) (W : World), Below w.heap.size w W → sh.map ShD.core = cl.map crdCore ++ tl.map treCore → sh.length = cl.length + tl.length → SharesAt W W.heap.size S sh → Calls Try.prog 32 #[.agg #[.int .i64 traits, .slice C cl.length c, .slice T tl.length t, .int .i64 need, .slice S (cl.length + tl.length) s], .slice SA sp.length sc] W fun e w' => e = .returned (.agg #[.int .i64 lo, .int .i64 hi]) ∧ Below W.heap.size W w') :
    Calls Try.prog 15 #[.agg #[.int .i64 traits, .slice C cl.length c, .slice T tl.length t, .int .i64 need], .slice SA sp.length sc] w fun e w' => e = .returned (.tuple #[.agg #[.int .i64 lo, .int .i64 hi], .int .i64 0]) ∧ Below w.heap.size w w' := by
  have b1 := (Below.refl w.heap.size w).alloc (Nat.le_refl _) (.cells #[.int .i64 traits, .slice C cl.length c, .slice T tl.length t, .int .i64 need] 25)
  have k1 := Blk.new w #[.int .i64 traits, .slice C cl.length c, .slice T tl.length t, .int .i64 need] 25
  have k1c := k1.cell
  have b1s := b1.size
  have b2 := b1.alloc b1s (.cells #[.int .i64 0, .int .i64 0] 45)
  have k2 := k1.alloc (.cells #[.int .i64 0, .int .i64 0] 45)
  have kr := newAt' (w.alloc (.cells #[.int .i64 traits, .slice C cl.length c, .slice T tl.length t, .int .i64 need] 25)) #[.int .i64 0, .int .i64 0] 45 (g := w.heap.size + 1) (by simp)
  have HC := Lib.hid (fun W hb => open_all traits need cl tl C T c t W (h.later (w' := W) hb) hls hq)
  have HV := Lib.hid (fun (S : Option Addr) (n s : Nat) W hb => spansV_any traits need C T S cl.length c tl.length t n s sp SA sc W (hx.later (w' := W) hb) hxl)
  rw [hv] at HV
  have HB := Lib.hid HBT
  have HSh := Lib.hid (fun (sh : List ShD) (hco : sh.map ShD.core = cl.map crdCore ++ tl.map treCore) (S : Option Addr) (s lo : Nat) W (hi : ShInv W lo S s (cl.length + tl.length) sh) (hb : Below w.heap.size w W) => hi.at_ (fun y hy q hq => ((core_parts h hco y hy q hq).below hb).more hb.size))
  clear hx HBT
  go_enter Try.func15, Try.ntmps15
  go_wp2_with fail
  generalize hW2 : (w.alloc (.cells #[.int .i64 traits, .slice C cl.length c, .slice T tl.length t, .int .i64 need] 25)).alloc (.cells #[.int .i64 0, .int .i64 0] 45) = W2 at *
  have hs2 := kr.lt
  clear hW2 k1c k1 b1 b1s h
  have b2s := b2.size
  go_wp2_with (first
    | (go_at_call 30; (with_reducible refine (HC.out _ b2).mono ?_); rintro e w5 ⟨S, s, sh, rfl, hco, hat, h5⟩; have HO := Lib.hid hco; have HA := Lib.hid hat; clear hco hat; have b5 := b2.trans (h5.mono b2s); have b5a := b5.alloc b5.size (.cells #[.int .i64 traits, .slice C cl.length c, .slice T tl.length t, .int .i64 need, .slice S (cl.length + tl.length) s] 62); have ba := (Below.refl w5.heap.size w5).alloc (Nat.le_refl _) (.cells #[.int .i64 traits, .slice C cl.length c, .slice T tl.length t, .int .i64 need, .slice S (cl.length + tl.length) s] 62); have k5 := (kr.below h5 hs2).alloc (.cells #[.int .i64 traits, .slice C cl.length c, .slice T tl.length t, .int .i64 need, .slice S (cl.length + tl.length) s] 62); have k5c := k5.cell; have kw := Blk.new w5 #[.int .i64 traits, .slice C cl.length c, .slice T tl.length t, .int .i64 need, .slice S (cl.length + tl.length) s] 62; have kwc := kw.cell)
    | (go_at_call 31; (with_reducible refine (HV.out S (cl.length + tl.length) s _ b5a).mono ?_); rintro e w6 ⟨rfl, h6⟩; have b6 := b5a.trans (h6.mono b5a.size); have k6 := k5.below h6 k5.lt; have k6c := k6.cell; have kw6 := kw.below h6 kw.lt; have kw6c := kw6.cell; have hA6 := (HA.out.below ba).below h6)
    | (go_at_call 32; (with_reducible refine (HB.out S s sh _ b6 HO.out (ShInv.len HA.out) (HSh.out sh HO.out S s _ _ hA6 b6)).mono ?_); rintro e w7 ⟨rfl, h7⟩; have b7 := b6.trans (h7.mono b6.size); have k7 := k6.below h7 k6.lt; have k7c := k7.cell; have z0 := k7.free 0; have z1 := k7.free 1))
  have hrc := (sp_put (c0 := .int .i64 lo) (c1 := .int .i64 hi) k7).cell
  exact bodyPost_ret (v := .tuple #[.agg #[.int .i64 lo, .int .i64 hi], .int .i64 0]) (by simp [results, Try.results15, go_sem, hrc]) rfl ⟨rfl, (b7.setCell (p := ⟨w.heap.size + 1, 0, none⟩) (by simp) _).setCell (p := ⟨w.heap.size + 1, 1, none⟩) (by simp) _⟩

end Go.Proofs.Ytijhbcmmoagdmaa

namespace Go.Proofs.Ytijhbcmmoagdmaa
open Go.RowKit Go.Shelf

attribute [local go_sem] Oper.semAt_some

/-- The slice at A holds the numbers l, below block B. -/
def Ints (w : World) (B : Nat) (A : Option Addr) (l : List Int) : Prop :=
  ∀ k, (h : k < l.length) → ∃ b off, A = some ⟨b, off, none⟩ ∧ b < B ∧ w.cell? ⟨b, off + k, none⟩ = some (.int .i64 l[k])
theorem Ints.below {w w' : World} {B : Nat} {A : Option Addr} {l : List Int} (h : Ints w B A l) (hb : Below B w w') : Ints w' B A l := fun k hk => by
  obtain ⟨b, off, e, h1, h2⟩ := h k hk
  exact ⟨b, off, e, h1, (hb.cell (p := ⟨b, off + k, none⟩) h1).trans h2⟩
theorem Ints.more {w : World} {B B' : Nat} {A : Option Addr} {l : List Int} (h : Ints w B A l) (hB : B ≤ B') : Ints w B' A l := fun k hk => by
  obtain ⟨b, off, e, h1, h2⟩ := h k hk
  exact ⟨b, off, e, by omega, h2⟩
theorem Ints.later {w0 W : World} {A : Option Addr} {l : List Int} (h : Ints w0 w0.heap.size A l) (hb : Below w0.heap.size w0 W) : Ints W W.heap.size A l := (h.below hb).more hb.size
theorem Ints.of_own {w : World} {base : Nat} {A : Option Addr} {n c : Nat} {l : List Int} (h : w.ownsRow base 3 1 (.slice A n c) n (l.map (Value.int .i64))) : Ints w w.heap.size A l := by
  intro k hk
  have hn : n = l.length := by have := h.1; simp at this; omega
  obtain ⟨g, cap, hv, hb, hlt⟩ := h.form (by omega)
  injection hv with hA
  subst hA
  refine ⟨g, 0, rfl, hlt, ?_⟩
  rw [Nat.zero_add, h.cellAt k (by omega)]
  simp [hk]

abbrev encI (x : Int) : Array Value := #[.int .i64 x]

set_option maxRecDepth 100000 in
set_option maxHeartbeats 2000000 in
theorem valuesI1_in (F : Fence) (n : Nat) (h7 : F.fn 76) (hro : F.round = none) (hn : 1 ≤ n) (l Bs n₀ : Nat) (A : Option Addr) (cap : Nat) (zs : List Int) (hz : zs.length ≤ maxLen) (J Jx : List Int → World → Prop)
    (hY : ∀ pre x W, J pre W → pre.length < zs.length → YieldAt F (n - 1) Try.prog l (encI x) W fun e W' =>
      (e = .returned (.bool true) ∧ J (pre ++ [x]) W' ∧ Below n₀ W W') ∨ (e = .returned (.bool false) ∧ Jx (pre ++ [x]) W'))
    (W : World) (hc : W.cell? ⟨Bs, 0, none⟩ = some (.slice A zs.length cap)) (hS : Ints W n₀ A zs) (h0 : J [] W) :
    CallsIn F n Try.prog 76 #[.func (.yield l) #[] #[], .pointer (some ⟨Bs, 0, none⟩)] W fun e W' => (∃ v, e = .returned v) ∧
      ((∃ ys, ys = zs ∧ J ys W') ∨ (∃ pre, pre <+: zs ∧ Jx pre W')) := by
  unfold maxLen at hz
  refine callsIn_of_wp Try.func76 rfl h7 ?_ hro
  simp only [Try.ntmps76, List.size_toArray, List.length_cons, List.length_nil, Nat.reduceAdd, Nat.reduceSub, Array.replicate_succ, Array.replicate_zero, List.push_toArray, List.append_toArray, List.nil_append, List.cons_append]
  gi_wp2
  gi_loopw [7] (fun i wr => ∃ k : Nat, k ≤ zs.length ∧ i = .int .i64 k ∧ J (zs.take k) wr ∧ Below n₀ W wr)
    (fun i _ => zs.length - (vInt i).toNat)
  case atStart => exact ⟨0, Nat.zero_le _, rfl, h0, Below.refl _ _⟩
  case round =>
    obtain ⟨k, hk, rfl, hJs, hnx⟩ := hrel
    by_cases hlt : k < zs.length
    · have hil : (k : Int) < (zs.length : Int) := by omega
      obtain ⟨b, off, rfl, hb, hcell⟩ := (hS.below hnx) k hlt
      have hsnoc : zs.take (k + 1) = zs.take k ++ [zs[k]] := List.take_succ_eq_append_getElem hlt
      generalize zs[k] = x at hcell hsnoc
      obtain ⟨fn, tmps, assign, body, hy, hR⟩ := hY _ x wr hJs (by rw [List.length_take]; omega)
      dsimp only [encI] at hy
      gi_wp2
      refine hR.mono ?_
      rintro e W3 (⟨rfl, hJ3, hk3⟩ | ⟨rfl, hJx3⟩)
      · gi_wp2
        go_roundw
        case rel => exact ⟨k + 1, by omega, by go_num, by rw [hsnoc]; exact hJ3, hnx.trans hk3⟩
        case measure => simp [vInt]; omega
      · gi_wp2
        refine bodyPost_ret (results_none rfl _ _ _) rfl ?_
        exact ⟨⟨_, rfl⟩, .inr ⟨_, hsnoc ▸ List.take_prefix _ _, hJx3⟩⟩
    · have hil : ¬ (k : Int) < (zs.length : Int) := by omega
      have hall : zs.take k = zs := List.take_of_length_le (by omega)
      gi_wp2
      go_end0
      rw [hall] at hJs
      exact ⟨⟨_, rfl⟩, .inl hJs⟩

set_option maxHeartbeats 1000000 in
theorem valuesI_in (F : Fence) (n : Nat) (h5 : F.fn 73) (hro : F.round = none) (a : Option Addr) (len cap : Nat) (w : World) :
    CallsIn F n Try.prog 73 #[.slice a len cap] w fun e w' => e = .returned (.func (.func 76) #[] #[.pointer (some ⟨w.heap.size, 0, none⟩)]) ∧ w' = w.alloc (.cells #[.slice a len cap] 26) := by
  refine callsIn_of_wp Try.func73 rfl h5 ?_ hro
  simp only [Try.ntmps73, List.size_toArray, List.length_cons, List.length_nil, Nat.reduceAdd, Nat.reduceSub, Array.replicate_succ, Array.replicate_zero, List.push_toArray, List.append_toArray, List.nil_append, List.cons_append]
  gi_wp2
  go_ret
  exact ⟨rfl, rfl⟩

theorem valuesI_stops (F : Fence) (n : Nat) (h7 : F.fn 76) (hro : F.round = none) (hn : 1 ≤ n) (Bs n₀ : Nat) (A : Option Addr) (cap : Nat) (zs : List Int) (hz : zs.length ≤ maxLen) (w : World) (hBs : Bs < n₀) (hn₀ : n₀ ≤ w.heap.size)
    (hc : w.cell? ⟨Bs, 0, none⟩ = some (.slice A zs.length cap)) (hS : Ints w n₀ A zs) :
    SeqStopsK F n Try.prog 76 #[.pointer (some ⟨Bs, 0, none⟩)] encI (Below n₀) (fun ys => ys = zs) (fun pre => pre <+: zs) zs.length w := fun l J Jx W hW _ _ hY h0 =>
  valuesI1_in F n h7 hro hn l Bs n₀ A cap zs hz J Jx hY W ((hW.cell (p := ⟨Bs, 0, none⟩) (by show Bs < _; omega)).trans hc) (hS.below (hW.mono hn₀)) h0

set_option maxRecDepth 100000 in
set_option maxHeartbeats 4000000 in
/-- slices.AppendSeq(nil, slices.Values(zs)). -/
theorem appendSeqI_in (n : Nat) (hn : 3 ≤ n) (Bs n₀ : Nat) (A : Option Addr) (cap : Nat) (zs : List Int) (hz : zs.length ≤ 1000) (w : World) (hBs : Bs < n₀) (hn₀ : n₀ ≤ w.heap.size) (hc : w.cell? ⟨Bs, 0, none⟩ = some (.slice A zs.length cap)) (hS : Ints w n₀ A zs) :
    CallsIn Fence.wide n Try.prog 77 #[.slice none 0 0, .func (.func 76) #[] #[.pointer (some ⟨Bs, 0, none⟩)]] w fun e w' =>
      ∃ v, e = .returned v ∧ w'.ownsRow w.heap.size 3 1 v zs.length (zs.map (Value.int .i64)) ∧ Below w.heap.size w w' := by
  have h1 : 1 ≤ n := by omega
  obtain ⟨i0, hi, hz0, hz1, hz2⟩ := info_parts intInfo
  refine callsIn_of_wp_marks Try.func77 rfl trivial ?_ rfl
  simp only [Try.ntmps77, List.size_toArray, List.length_cons, List.length_nil, Nat.reduceAdd, Nat.reduceSub, Array.replicate_succ, Array.replicate_zero, List.push_toArray, List.append_toArray, List.nil_append, List.cons_append]
  gi_wp2
  have bO := Boxed.new w 26 (.slice none 0 0)
  have hB0 : Below w.heap.size w (w.alloc (.cells #[.slice none 0 0] 26)) := (Below.refl _ w).alloc (Nat.le_refl _) _
  have hsz : (w.alloc (.cells #[.slice none 0 0] 26)).heap.size = w.heap.size + 1 := by simp
  obtain ⟨W0, hW0⟩ : ∃ W0, w.alloc (.cells #[.slice none 0 0] 26) = W0 := ⟨_, rfl⟩
  rw [hW0] at bO hB0 hsz ⊢
  clear hW0
  have hcW := (hB0.cell (p := ⟨Bs, 0, none⟩) (by show Bs < _; omega)).trans hc
  refine wpIn_rangeFunc_ownG rfl h1 (gf := 76) (lb := #[.pointer (some ⟨Bs, 0, none⟩)]) rfl trivial (enters_of Try.func76 (by kernel_rfl) rfl)
    (valuesI_stops Fence.wide (n - 1) trivial rfl (by omega) Bs w.heap.size A cap zs (by unfold maxLen; omega) W0 (by omega) (by omega) hcW ((hS.more hn₀).below hB0)) belowK_t (belowK_b (by omega)) (Below.refl _ _) (fun _ => rfl)
    (fun pre W => (∃ v, Boxed W w.heap.size 26 v ∧ W.ownsRow w.heap.size 3 1 v pre.length (pre.map (Value.int .i64)) ∧ True) ∧ Below w.heap.size w W)
    (fun _ _ _ => False)
    (OwnFrom.and (Own.from (holdsRow_own w.heap.size w.heap.size 26 3 1 (fun pre : List Int => pre.length) (fun pre : List Int => pre.map (Value.int .i64)) (fun _ _ => True)) _) (ownFrom_below (Nat.le_refl _) (by omega)))
    (fun _ _ _ _ _ hs _ _ => hs)
    ⟨⟨_, bO, World.ownsRow_nil _ _ _ _, trivial⟩, hB0⟩
    (fun x => { tmps := #[.slice none 0 0, .func (.func 76) #[] #[.pointer (some ⟨Bs, 0, none⟩)], .pointer (some ⟨w.heap.size, 0, none⟩), undef, .slice none 0 0, .int .i64 x, .func (.func 76) #[] #[.pointer (some ⟨Bs, 0, none⟩)], .int .i64 x, undef, undef, undef, undef, undef], defers := [] }) ?assign ?body ?done ?stop
  case assign =>
    intro l x W K hK
    gi_wp2
    exact hK
  case body =>
    rintro l pre x W ⟨⟨v, hv, hrow, _⟩, hB⟩ hlt
    have hc := hv.cell
    gi_wp2_with (gi_at_builtin; refine wpListIn_append_own _ rfl _ _ 26 rfl w.heap.size 3 i0 (.int .i64 0) 1 8 Try.underlying26 hi hz0 hz1 hz2 rfl (by decide) _ _ _ rfl (hrow.alloc _) ⟨W.heap.size, 0, none⟩ 1 1 [.int .i64 x] rfl rfl (cell_one_new _ _ _) (by simp [Value.oneCell']) (by unfold maxLen; omega) (by omega) (by have := hB.size; simp; omega) ?_; intro v' w1 hown' hgrow _; obtain ⟨g', cap', rfl⟩ := ownsRow_succ hown'; obtain ⟨hv1, hv2, hr2, hk2, hb2⟩ := hv.appended (by decide) hrow hB.size (Nat.le_refl _) hown' hgrow; have hc1 := hv1.cell; have hf1 := hv1.frozen)
    exact ⟨hk2.from _, hb2, ⟨⟨_, hv2, by rw [List.map_append, List.length_append]; exact hr2, trivial⟩, hB.trans hb2⟩⟩
  case done =>
    rintro D ys W hD rfl ⟨⟨v, hv, hrow, _⟩, hB⟩ hK
    have hc := hv.cell
    gi_wp2
    refine ⟨by simp, .inl ⟨_, _, rfl, run_takeDeferred hK, ?_⟩⟩
    exact ⟨_, results_tmp rfl _ _ _, v, rfl, ownsRow_putObj hrow _ hK rfl, hB.trans (belowK_b (w := w) (Nat.le_refl _) W D _ _ (by omega) hK rfl rfl)⟩
  case stop =>
    rintro D c pre W _ _ h _
    exact h.elim

set_option maxHeartbeats 1000000 in
theorem collectI_any (Bs n₀ : Nat) (A : Option Addr) (cap : Nat) (zs : List Int) (hz : zs.length ≤ 1000) (w : World) (hBs : Bs < n₀) (hn₀ : n₀ ≤ w.heap.size) (hc : w.cell? ⟨Bs, 0, none⟩ = some (.slice A zs.length cap)) (hS : Ints w n₀ A zs) :
    Calls Try.prog 74 #[.func (.func 76) #[] #[.pointer (some ⟨Bs, 0, none⟩)]] w fun e w' =>
      ∃ v, e = .returned v ∧ w'.ownsRow w.heap.size 3 1 v zs.length (zs.map (Value.int .i64)) ∧ Below w.heap.size w w' := by
  have HA := Lib.hid (callsIn_wide.1 (appendSeqI_in 3 (Nat.le_refl _) Bs n₀ A cap zs hz w hBs hn₀ hc hS))
  clear hc hS
  go_enter Try.func74, Try.ntmps74
  go_wp2_with (go_at_call 77; with_reducible refine (HA.out).mono ?_; rintro e w' ⟨v, rfl, hown, hb⟩)
  go_ret
  exact ⟨v, rfl, hown, hb⟩

end Go.Proofs.Ytijhbcmmoagdmaa

namespace Go.Proofs.Ytijhbcmmoagdmaa
open Go.RowKit Go.Shelf

theorem sortI_none (p : Option Addr) (c : Nat) (W : World) : Calls Try.prog 75 #[.slice p 0 c] W fun e w' => e = .returned (.tuple #[]) ∧ w' = W := AnyM.slices_Sort_int_none Try.sortInt p c W
theorem compactI_none (p : Option Addr) (c : Nat) (W : World) : Calls Try.prog 71 #[.slice p 0 c] W fun e w' => e = .returned (.slice p 0 c) ∧ w' = W := AnyG.slices_Compact_int_empty Try.compactInt p c W
theorem holds_of_ownI {w : World} {base g n c : Nat} {l : List Int} (h : w.ownsRow base 3 1 (.slice (some ⟨g, 0, none⟩) n c) n (l.map (Value.int .i64))) : Sort.Holds (Value.int .i64) w g 0 l.toArray := by
  have hn : n = l.length := by have := h.1; simp at this; omega
  subst hn
  intro t ht
  have ht' : t < l.length := by simpa using ht
  refine ⟨?_, by rw [Nat.zero_add]; exact h.frozenAt t⟩
  rw [Nat.zero_add, h.cellAt t (by omega)]
  simp [ht']
theorem grownBy_row {w : World} {g q : Nat} (d : Array Int) : w.grownBy (Sort.putRow (Value.int .i64) (Sort.ahead w q) g 0 d) (some g) := by
  refine ⟨rfl, rfl, rfl, by simp [Sort.putRow, Sort.mapBlock, Sort.ahead], fun j hj hne => ?_⟩
  have : g ≠ j := fun e => hne (by rw [e])
  simp [Sort.putRow, Sort.mapBlock, Sort.ahead, Array.getElem?_modify, this]
theorem grownBy_rowGrow {w : World} {g q : Nat} {os : Array Obj} (d : Array Int) : w.grownBy (Sort.grow (Sort.putRow (Value.int .i64) (Sort.ahead w q) g 0 d) os) (some g) := by
  refine ⟨rfl, rfl, rfl, by simp [Sort.putRow, Sort.mapBlock, Sort.ahead, Sort.grow], fun j hj hne => ?_⟩
  rw [Sort.heap_grow_old _ _ (by simpa [Sort.putRow, Sort.mapBlock, Sort.ahead] using hj)]
  have : g ≠ j := fun e => hne (by rw [e])
  simp [Sort.putRow, Sort.mapBlock, Sort.ahead, Array.getElem?_modify, this]
theorem sortI_some (g cap : Nat) (zs : List Int) (W : World) (hg : g < W.heap.size) (hH : Sort.Holds (Value.int .i64) W g 0 zs.toArray) (hz : zs.length ≤ 1000) :
    Calls Try.prog 75 #[.slice (some ⟨g, 0, none⟩) zs.length cap] W fun e w' =>
      e = .returned (.tuple #[]) ∧ Sort.Holds (Value.int .i64) w' g 0 (zs.mergeSort fun x y => decide (x ≤ y)).toArray ∧ W.grownBy w' (some g) :=
  (AnyM.slices_Sort_int Try.sortInt g 0 cap zs W hH hg (by omega)).mono fun e w' ⟨he, n, os, hw⟩ => by
    subst hw
    exact ⟨he, Sort.holds_grow _ _ _ _ _ _ (by simpa [Sort.putRow, Sort.mapBlock, Sort.ahead] using hg) (Sort.holds_putRow _ _ _ _ zs.toArray _ hH (by simp)), grownBy_rowGrow _⟩
theorem compactI_some (g cap : Nat) (zs : List Int) (W : World) (hg : g < W.heap.size) (hH : Sort.Holds (Value.int .i64) W g 0 zs.toArray) (hz : zs.length ≤ 1000) (hcap : zs.length ≤ cap) :
    Calls Try.prog 71 #[.slice (some ⟨g, 0, none⟩) zs.length cap] W fun e w' =>
      e = .returned (.slice (some ⟨g, 0, none⟩) (Lib.compact zs).length cap) ∧ Flat 1 intC w' w'.heap.size (some ⟨g, 0, none⟩) (Lib.compact zs) ∧ W.grownBy w' (some g) :=
  (AnyG.slices_Compact_int Try.compactInt g 0 cap zs W hH (by omega) hcap).mono fun e w' ⟨he, q, hw⟩ => by
    subst hw
    have hle : (Lib.compact zs).length ≤ zs.length := by
      unfold Lib.compact Lib.compactUpTo
      rw [List.length_map]
      exact Nat.le_trans (List.length_filter_le _ _) (by rw [List.length_range]; exact Nat.le_refl _)
    refine ⟨he, fun k hk => ?_, grownBy_row _⟩
    have hH2 := Sort.holds_putRow (Value.int .i64) (Sort.ahead W q) g 0 zs.toArray (Lib.compact zs ++ List.replicate (zs.length - (Lib.compact zs).length) 0).toArray hH (by simp; omega)
    refine ⟨g, 0, rfl, Nat.lt_of_lt_of_le hg (grownBy_row (w := W) (g := g) (q := q) _).size, fun i hi => ?_⟩
    obtain rfl : i = 0 := by omega
    have := (hH2 k (by simp; omega)).1
    rw [Nat.mul_one, Nat.add_zero, this]
    simp [intC]
    rw [List.getElem?_append_left hk]
    simp [hk]
def SortedS (w : World) (zs : List Int) (e : Ending) (w' : World) : Prop :=
  ∃ A' c', e = .returned (.slice A' zs.length c') ∧ zs.length ≤ c' ∧ (zs = [] ∨ ∃ g, A' = some ⟨g, 0, none⟩ ∧ w.heap.size ≤ g ∧ g < w'.heap.size ∧ Sort.Holds (Value.int .i64) w' g 0 (zs.mergeSort fun x y => decide (x ≤ y)).toArray) ∧ Below w.heap.size w w'
set_option maxHeartbeats 1000000 in
theorem sorted_any (Bs : Nat) (A : Option Addr) (cap : Nat) (zs : List Int) (hz : zs.length ≤ 1000) (w : World) (hBs : Bs < w.heap.size) (hc : w.cell? ⟨Bs, 0, none⟩ = some (.slice A zs.length cap)) (hS : Ints w w.heap.size A zs) :
    Calls Try.prog 72 #[.func (.func 76) #[] #[.pointer (some ⟨Bs, 0, none⟩)]] w (SortedS w zs) := by
  have HC := Lib.hid (collectI_any Bs w.heap.size A cap zs hz w hBs (Nat.le_refl _) hc hS)
  clear hc hS
  go_enter Try.func72, Try.ntmps72
  go_wp2_with (go_at_call 74; with_reducible refine (HC.out).mono ?_; rintro e w1 ⟨v, rfl, hown, hb1⟩)
  have hz1 := hb1.size
  rcases hown.2 with ⟨rfl, h0⟩ | ⟨g, cap1, cur, rfl, hbase, hb, h1, h2, h3, h4⟩
  · have hnil : zs = [] := List.eq_nil_of_length_eq_zero h0
    subst hnil
    have HS := Lib.hid (sortI_none none 0 w1)
    clear hown
    go_wp2_with (go_at_call 75; with_reducible refine (HS.out).mono ?_; rintro e w2 ⟨rfl, rfl⟩)
    go_ret
    exact ⟨none, 0, rfl, Nat.le_refl _, .inl rfl, hb1⟩
  · have hg : g < w1.heap.size := (Array.getElem?_eq_some_iff.1 hb).1
    have HS := Lib.hid (sortI_some g cap1 zs w1 hg (holds_of_ownI hown) hz)
    clear hown hb h4 h3
    go_wp2_with (go_at_call 75; with_reducible refine (HS.out).mono ?_; rintro e w2 ⟨rfl, hP, hg2⟩)
    go_ret
    exact ⟨some ⟨g, 0, none⟩, cap1, rfl, h1, .inr ⟨g, rfl, hbase, Nat.lt_of_lt_of_le hg hg2.size, hP⟩, hb1.grown hg2 hz1 (fun k e => by cases e; exact hbase)⟩
theorem ints_of (w : World) (A : Option Addr) (l : List Int) (h : IntsAt w w.heap.size A l) : Ints w w.heap.size A l := fun k hk => by
  obtain ⟨b, off, e, h1, h2⟩ := ints_at h hk
  exact ⟨b, off, e, h1, h2⟩
def AscS (w : World) (zs : List Int) (e : Ending) (w' : World) : Prop :=
  ∃ A' c', e = .returned (.slice A' (ordI zs).length c') ∧ FlatP 1 intC w' (fun b => w.heap.size ≤ b) A' (ordI zs) ∧ Below w.heap.size w w'
set_option maxHeartbeats 1000000 in
theorem ascending_any (A : Option Addr) (c : Nat) (zs : List Int) (hz : zs.length ≤ 1000) (w : World) (h : IntsAt w w.heap.size A zs) :
    Calls Try.prog 69 #[.slice A zs.length c] w fun e w' => ∃ A' c', e = .returned (.slice A' (ordI zs).length c') ∧ FlatP 1 intC w' (fun b => w.heap.size ≤ b) A' (ordI zs) ∧ Below w.heap.size w w' := by
  refine Calls.mono (R := AscS w zs) ?_ (fun _ _ h => h)
  have b1 := (Below.refl w.heap.size w).alloc (Nat.le_refl _) (.cells #[.slice A zs.length c] 26)
  have k1 := Blk.new w #[.slice A zs.length c] 26
  have HV := Lib.hid (callsIn_wide (n := 3) |>.1 (valuesI_in Fence.wide 3 trivial rfl A zs.length c w))
  have HS := Lib.hid (sorted_any w.heap.size A c zs hz (w.alloc (.cells #[.slice A zs.length c] 26)) k1.lt (k1.cell 0) (ints_of _ _ _ (h.later b1)))
  have hord := compact_sorted zs
  have hlen : (zs.mergeSort fun x y => decide (x ≤ y)).length = zs.length := List.length_mergeSort _
  clear h k1
  go_enter Try.func69, Try.ntmps69
  go_wp2_with (first
    | (go_at_call 73; (with_reducible refine (HV.out).mono ?_); rintro e w1 ⟨rfl, rfl⟩)
    | (go_at_call 72; (with_reducible refine (HS.out).mono ?_); rintro e w2 ⟨A2, c2, rfl, hcap, hH, hb2⟩))
  have hB := b1.trans (hb2.mono b1.size)
  rcases hH with rfl | ⟨g, rfl, hg1, hg2, hH⟩
  · have HC := Lib.hid (compactI_none A2 c2 w2)
    simp only [List.length_nil] at *
    go_wp2_with (go_at_call 71; (with_reducible refine (HC.out).mono ?_); rintro e w3 ⟨rfl, rfl⟩)
    go_ret
    exact ⟨A2, c2, rfl, fun k hk => by simp [ordI] at hk, hB⟩
  · have HC := Lib.hid (compactI_some g c2 (zs.mergeSort fun x y => decide (x ≤ y)) w2 hg2 hH (by omega) (by omega))
    rw [hord, hlen] at HC
    clear hH hord hlen
    go_wp2_with (go_at_call 71; (with_reducible refine (HC.out).mono ?_); rintro e w3 ⟨rfl, hf, hg3⟩)
    refine bodyPost_ret (v := .slice (some ⟨g, 0, none⟩) (ordI zs).length c2) (by simp [results, Try.results69, go_sem]) rfl ⟨some ⟨g, 0, none⟩, c2, rfl, fun k hk => ?_, hB.grown hg3 hB.size (fun k e => by cases e; simp at hg1; omega)⟩
    obtain ⟨b, off, e, h1, h2⟩ := hf k hk
    cases e
    exact ⟨g, 0, rfl, h1, by simp at hg1; omega, h2⟩
end Go.Proofs.Ytijhbcmmoagdmaa
