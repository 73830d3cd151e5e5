/- Numbers in order, each only once: by the library's Sort and Compact, as data. -/
import Derived.Test.YtpahcbhikmfamaaGreatSBDat
import Derived.Lib.SlicesCompact
import Derived.Test.YtpahcbhikmfamaaGreatBCh4
import Derived.Test.YtpahcbhikmfamaaGreatBCut

namespace Go.Proofs.YtpahcbhikmfamaaGreat
open Go.RowKit Go.Maps

theorem compactUp_props (d : Array Int) (n : Nat) (hs : ∀ i, i + 1 < n → d[i]! ≤ d[i + 1]!) : ∀ m, m ≤ n → (Lib.compactUpTo d m).Pairwise (· < ·) ∧ (∀ x, x ∈ Lib.compactUpTo d m ↔ ∃ j, j < m ∧ d[j]! = x) ∧ (∀ x ∈ Lib.compactUpTo d m, x ≤ d[m - 1]!)
  | 0, _ => ⟨by simp [Lib.compactUpTo], by simp [Lib.compactUpTo], by simp [Lib.compactUpTo]⟩
  | m + 1, hm => by
    obtain ⟨h1, h2, h3⟩ := compactUp_props d n hs m (by omega)
    rw [Lib.compactUpTo_succ]
    rcases Nat.eq_zero_or_pos m with rfl | hp
    · have hk : Lib.keeps d 0 = true := Lib.keeps_lt_one d 0 (by omega)
      rw [hk]
      simp only [if_true]
      have e0 : Lib.compactUpTo d 0 = [] := by simp [Lib.compactUpTo]
      rw [e0, List.nil_append]
      refine ⟨List.pairwise_singleton _ _, fun x => ?_, fun x hx => by rw [List.mem_singleton] at hx; subst hx; exact Int.le_refl _⟩
      rw [List.mem_singleton]
      constructor
      · rintro rfl; exact ⟨0, by omega, rfl⟩
      · rintro ⟨j, hj, rfl⟩; obtain rfl : j = 0 := by omega
        rfl
    · have hle := hs (m - 1) (by omega)
      rw [show m - 1 + 1 = m by omega] at hle
      rw [show m + 1 - 1 = m by omega]
      by_cases he : d[m]! = d[m - 1]!
      · rw [Lib.keeps_neg hp he]
        simp only [Bool.false_eq_true, if_false, List.append_nil]
        refine ⟨h1, fun x => ?_, fun x hx => by rw [he]; exact h3 x hx⟩
        rw [h2]
        constructor
        · rintro ⟨j, hj, e⟩; exact ⟨j, by omega, e⟩
        · rintro ⟨j, hj, e⟩
          rcases Nat.lt_or_ge j m with hj2 | hj2
          · exact ⟨j, hj2, e⟩
          · obtain rfl : j = m := by omega
            exact ⟨j - 1, by omega, by rw [← he]; exact e⟩
      · rw [Lib.keeps_pos he]
        simp only [if_true]
        refine ⟨List.pairwise_append.2 ⟨h1, List.pairwise_singleton _ _, fun x hx y hy => ?_⟩, fun x => ?_, fun x hx => ?_⟩
        · rw [List.mem_singleton] at hy; subst hy
          have := h3 x hx; omega
        · rw [List.mem_append, List.mem_singleton, h2]
          constructor
          · rintro (⟨j, hj, e⟩ | e)
            · exact ⟨j, by omega, e⟩
            · exact ⟨m, by omega, e.symm⟩
          · rintro ⟨j, hj, e⟩
            rcases Nat.lt_or_ge j m with hj2 | hj2
            · exact .inl ⟨j, hj2, e⟩
            · obtain rfl : j = m := by omega
              exact .inr e.symm
        · rcases List.mem_append.1 hx with hx | hx
          · have := h3 x hx; omega
          · rw [List.mem_singleton] at hx; subst hx; exact Int.le_refl _
theorem compact_sorted (l : List Int) : Lib.compact (l.mergeSort fun x y => decide (x ≤ y)) = ordI l := by
  have hp : (l.mergeSort fun x y => decide (x ≤ y)).Pairwise (fun x y => decide (x ≤ y) = true) := List.pairwise_mergeSort (by intro a b c h1 h2; simp at *; omega) (by intro a b; simp; omega) l
  generalize hz : (l.mergeSort fun x y => decide (x ≤ y)) = zs at *
  have hm : ∀ x, x ∈ zs ↔ x ∈ l := fun x => by rw [← hz]; exact List.mem_mergeSort
  have hs : ∀ i, i + 1 < zs.length → zs.toArray[i]! ≤ zs.toArray[i + 1]! := fun i hi => by
    have := List.pairwise_iff_getElem.1 hp i (i + 1) (by omega) hi (by omega)
    have h1 : i < zs.length := by omega
    simpa [h1, hi] using this
  obtain ⟨h1, h2, _⟩ := compactUp_props zs.toArray zs.length hs zs.length (Nat.le_refl _)
  refine incr_ext _ _ h1 (ordI_incr l) fun x => ?_
  show x ∈ Lib.compactUpTo zs.toArray zs.length ↔ _
  rw [h2, ordI_mem, ← hm]
  constructor
  · rintro ⟨j, hj, rfl⟩
    have : zs.toArray[j]! = zs[j] := by simp [hj]
    rw [this]; exact List.getElem_mem hj
  · intro hx
    obtain ⟨j, hj, rfl⟩ := List.getElem_of_mem hx
    exact ⟨j, hj, by simp [hj]⟩
end Go.Proofs.YtpahcbhikmfamaaGreat

namespace Go.Proofs.YtpahcbhikmfamaaGreat
open Go.RowKit Go.Maps

def partCuts (k : Int) : PartD → List Int
  | .scl x i => if (i : Int) = k then x.v.cuts else []
  | .tre y => nodCuts k y.v.nodes
def shCuts (k : Int) (y : ShD) : List Int := y.parts.flatMap (partCuts k)
def allCuts (k : Int) (sh : List ShD) : List Int := sh.flatMap (shCuts k)
structure CutOk (q : PartD) : Prop where
  scl : ∀ x i, q = .scl x i → x.v.cuts.length ≤ 10
  tre : ∀ y, q = .tre y → y.v.nodes.length ≤ 20
theorem partCuts_len {q : PartD} (h : CutOk q) (k : Int) : (partCuts k q).length ≤ 20 := by
  cases q with
  | scl x i => simp only [partCuts]; split; have := h.scl x i rfl; omega; simp
  | tre y => simp only [partCuts]; have := h.tre y rfl; have := nodCuts_len k y.v.nodes; omega
theorem cutsOf_any (q : PartD) (v : Value) (hv : partC q = [v]) (k : Int) (w : World) (h : PartAt w w.heap.size q) (hl : CutOk q) :
    Calls Tryz.prog 62 #[v, .int .i64 k] w fun e w' => ∃ A' c', e = .returned (.slice A' (partCuts k q).length c') ∧ w'.ownsRow w.heap.size 3 1 (.slice A' (partCuts k q).length c') (partCuts k q).length ((partCuts k q).flatMap intC) ∧ Below w.heap.size w w' := by
  cases q with
  | scl x i => simp only [partC, List.cons.injEq, and_true] at hv; subst hv; exact cutsOf_scl x i k w h (hl.scl x i rfl)
  | tre y => simp only [partC, List.cons.injEq, and_true] at hv; subst hv; exact cutsOf_tre y.v.weight y.v.nodes y.T y.t k w h (hl.tre y rfl)
theorem partC_val (q : PartD) : ∃ v, partC q = [v] := by cases q <;> exact ⟨_, rfl⟩
theorem flat_snoc {α β : Type} (f : α → List β) (l : List α) {i : Nat} (h : i < l.length) : (l.take (i + 1)).flatMap f = (l.take i).flatMap f ++ f l[i] := by
  rw [List.take_succ_eq_append_getElem h, List.flatMap_append]; simp
theorem putI_len : ∀ (l : List Int) (n : Int), (putI l n).length ≤ l.length + 1
  | [], n => by simp [putI]
  | y :: r, n => by
    unfold putI
    have := putI_len r n
    split
    · simp only [List.length_cons]; omega
    · split <;> simp
theorem foldl_len : ∀ (cs a : List Int), (cs.foldl putI a).length ≤ a.length + cs.length
  | [], a => by simp
  | c :: cs, a => by
    have := foldl_len cs (putI a c)
    have := putI_len a c
    rw [List.foldl_cons, List.length_cons]; omega
theorem ordI_len (cs : List Int) : (ordI cs).length ≤ cs.length := by have := foldl_len cs []; simpa [ordI] using this
theorem make_ints (T : Nat) (hT : T ≤ 1000) (W : World) : (Instr.makeSlice 95 (.int .i64 (T : Int)) (.int .i64 (T : Int))).run Tryz.prog W = .ok (.slice (some ⟨W.heap.size, 0, none⟩) T T) (W.alloc (.cells (madeCells #[.slice none 0 0] T) 26)) := by
  obtain ⟨i, hi, hz0, hz1, hz2⟩ := info_parts (show (Tryz.prog.info? 26).map (fun i => (i.zero, i.size, i.bytes)) = some (some (.slice none 0 0), 1, 24) by kernel_rfl)
  have := run_makeSlice (P := Tryz.prog) W 95 26 i _ Tryz.underlying95 hi hz0 .i64 .i64 (T : Int) (T : Int) (by omega) (Int.le_refl _) (by rw [hz1]; simp; omega) (by rw [hz2]; simp; omega) (by omega)
  rw [hz1, show (Value.slice none 0 0).cells = #[.slice none 0 0] from rfl] at this
  simpa using this
theorem acc_len (k : Int) (sh : List ShD) {i : Nat} (h : i < sh.length) (j : Nat) : ((sh.take i).flatMap (shCuts k) ++ (sh[i].parts.take j).flatMap (partCuts k)).length ≤ (allCuts k sh).length := by
  have h1 : (sh[i].parts.take j).flatMap (partCuts k) <+: shCuts k sh[i] := flat_prefix (partCuts k) (List.take_prefix j sh[i].parts)
  have h2 : (sh.take (i + 1)).flatMap (shCuts k) <+: allCuts k sh := flat_prefix (shCuts k) (List.take_prefix (i + 1) sh)
  rw [flat_snoc (shCuts k) sh h] at h2
  have h3 := h1.length_le
  have h4 := h2.length_le
  rw [List.length_append] at h4 ⊢
  omega
/-- The row of rows, the first k of which are there. -/
structure RowsC (W : World) (D og T k : Nat) (cs : Nat → List Int) (Cs : List CutD) : Prop where
  len : Cs.length = T
  own : W.ownsRow D 26 1 (.slice (some ⟨og, 0, none⟩) T T) T (Cs.flatMap cutC)
  each : ∀ q ∈ Cs, FlatP 1 intC W (fun b => D ≤ b ∧ b ≠ og) q.A q.l
  l : ∀ j, j < T → (Cs.getD j default).l = if j < k then ordI (cs j) else []
theorem rowsC_made (W : World) (D T : Nat) (cs : Nat → List Int) (hD : D ≤ W.heap.size) (hT : T ≤ 1000) : RowsC (W.alloc (.cells (madeCells #[.slice none 0 0] T) 26)) D W.heap.size T 0 cs (List.replicate T default) := by
  refine ⟨by simp, ?_, fun q hq => ?_, fun j hj => ?_⟩
  · have h := World.ownsRow_lit (size := 1) (e := 26) W (madeCells #[.slice none 0 0] T) T hD (by unfold maxLen; omega) (by rw [size_madeCells]; simp)
    rw [toList_madeCells_one] at h
    have e : (List.replicate T (default : CutD)).flatMap cutC = List.replicate T (Value.slice none 0 0) := by
      clear h hD hT
      induction T with
      | zero => rfl
      | succ T ih => rw [List.replicate_succ, List.flatMap_cons, ih, List.replicate_succ]; rfl
    rw [e]
    exact h
  · rw [List.eq_of_mem_replicate hq]
    intro k hk
    exact absurd hk (by simp [default])
  · rw [if_neg (by omega)]; simp [hj]; rfl
theorem RowsC.below {W W' : World} {D og T k : Nat} {cs : Nat → List Int} {Cs : List CutD} (h : RowsC W D og T k cs Cs) (hb : Below W.heap.size W W') : RowsC W' D og T k cs Cs :=
  ⟨h.len, own_below h.own hb, fun q hq => (h.each q hq).move (Fr.below hb), h.l⟩
theorem RowsC.put {W W' : World} {D og T k c' : Nat} {cs : Nat → List Int} {Cs : List CutD} {A' : Option Addr} (h : RowsC W D og T k cs Cs) (hk : k < T) (hb : Below W.heap.size W W') (hA : FlatP 1 intC W' (fun b => W.heap.size ≤ b) A' (ordI (cs k))) (hog : og < W.heap.size) (hD : D ≤ W.heap.size) :
    RowsC (W'.setCell ⟨og, k, none⟩ (.slice A' (ordI (cs k)).length c')) D og T (k + 1) cs (Cs.set k ⟨ordI (cs k), A', c'⟩) := by
  have hF : Fr (fun b => b ≠ og) W' (W'.setCell ⟨og, k, none⟩ (.slice A' (ordI (cs k)).length c')) := Fr.set (p := ⟨og, k, none⟩) (fun e => e rfl) _
  refine ⟨by rw [List.length_set]; exact h.len, ?_, fun q hq => ?_, fun j hj => ?_⟩
  · have e1 := flat_set cutC_len Cs k (by rw [h.len]; exact hk) ⟨ordI (cs k), A', c'⟩ 0 (.slice A' (ordI (cs k)).length c') (by omega) rfl
    rw [Nat.mul_one, Nat.add_zero] at e1
    rw [e1]
    exact ((own_below h.own hb).stored k (.slice A' (ordI (cs k)).length c')).1
  · rcases List.mem_or_eq_of_mem_set hq with h1 | h1
    · exact ((h.each q h1).move (Fr.below hb)).move (hF.imp (fun b hp => hp.2))
    · subst h1
      exact (hA.imp (Q := fun b => D ≤ b ∧ b ≠ og) (fun b _ hp => ⟨by omega, by omega⟩)).move (hF.imp (fun b hp => hp.2))
  · rw [List.getD_eq_getElem?_getD, List.getElem?_set]
    by_cases hjk : k = j
    · subst hjk
      rw [if_pos rfl, if_pos (by rw [h.len]; exact hk), if_pos (by omega)]; rfl
    · rw [if_neg hjk, ← List.getD_eq_getElem?_getD, h.l j hj]
      by_cases hlt : j < k
      · rw [if_pos hlt, if_pos (by omega)]
      · rw [if_neg hlt, if_neg (by omega)]

set_option maxRecDepth 100000 in
set_option maxHeartbeats 8000000 in
theorem cuts_any (T : Nat) (hT : T ≤ 1000) (need : Int) (C T' S : Option Addr) (cl c tl t s : Nat) (sh : List ShD) (w : World) (h : SharesAt w w.heap.size S sh) (hsl : sh.length ≤ 12) (hpl : ∀ y ∈ sh, y.parts.length ≤ 10) (hok : ∀ y ∈ sh, ∀ q ∈ y.parts, CutOk q) (hal : ∀ k : Nat, (allCuts (k : Int) sh).length ≤ 1000)
    (HAs : ∀ (A : Option Addr) (c : Nat) (zs : List Int), zs.length ≤ 1000 → ∀ w, IntsAt w w.heap.size A zs → Calls Tryz.prog 63 #[.slice A zs.length c] w fun e w' => ∃ A' c', e = .returned (.slice A' (ordI zs).length c') ∧ FlatP 1 intC w' (fun b => w.heap.size ≤ b) A' (ordI zs) ∧ Below w.heap.size w w') :
    Calls Tryz.prog 46 #[.agg #[.int .i64 (T : Int), .slice C cl c, .slice T' tl t, .int .i64 need, .slice S sh.length s]] w (CutsS w T (fun k => allCuts k sh)) := by
  obtain ⟨i4, hi4, hq0, hq1, hq2⟩ := info_parts intInfo
  have hmk := make_ints T hT
  have b1 := (Below.refl w.heap.size w).alloc (Nat.le_refl _) (.cells #[.int .i64 (T : Int), .slice C cl c, .slice T' tl t, .int .i64 need, .slice S sh.length s] 66)
  have k1 := Blk.new w #[.int .i64 (T : Int), .slice C cl c, .slice T' tl t, .int .i64 need, .slice S sh.length s] 66
  have k1c := k1.cell
  have k2c := (k1.alloc (.cells (madeCells #[.slice none 0 0] T) 26)).cell
  have hk2 := k1.alloc (.cells (madeCells #[.slice none 0 0] T) 26)
  have b2 := b1.alloc b1.size (.cells (madeCells #[.slice none 0 0] T) 26)
  have hR0 := rowsC_made (w.alloc (.cells #[.int .i64 (T : Int), .slice C cl c, .slice T' tl t, .int .i64 need, .slice S sh.length s] 66)) w.heap.size T (fun k => allCuts k sh) (by simp) hT
  rw [show (w.alloc (.cells #[.int .i64 (T : Int), .slice C cl c, .slice T' tl t, .int .i64 need, .slice S sh.length s] 66)).heap.size = w.heap.size + 1 by simp] at hR0
  have hz2 : ((w.alloc (.cells #[.int .i64 (T : Int), .slice C cl c, .slice T' tl t, .int .i64 need, .slice S sh.length s] 66)).alloc (.cells (madeCells #[.slice none 0 0] T) 26)).heap.size = w.heap.size + 2 := by simp
  have Hh := Lib.hid h
  go_enter Tryz.func46, Tryz.ntmps46
  go_wp2_with fail
  generalize (w.alloc (.cells #[.int .i64 (T : Int), .slice C cl c, .slice T' tl t, .int .i64 need, .slice S sh.length s] 66)).alloc (.cells (madeCells #[.slice none 0 0] T) 26) = W2 at *
  have HR0 := Lib.hid hR0
  clear hR0 h k1 k1c b1 k2c
  go_loopw [16] (fun ii wr => ∃ (k : Nat) (Cs : List CutD), k ≤ T ∧ ii = .int .i64 k ∧ Hid (RowsC wr w.heap.size (w.heap.size + 1) T k (fun k => allCuts k sh) Cs ∧ Below w.heap.size w wr ∧ Blk wr w.heap.size #[.int .i64 (T : Int), .slice C cl c, .slice T' tl t, .int .i64 need, .slice S sh.length s] 66 ∧ w.heap.size + 2 ≤ wr.heap.size)) (fun ii _ => T - (vInt ii).toNat)
  case atStart => exact ⟨0, _, Nat.zero_le _, rfl, Lib.hid ⟨HR0.out, b2, hk2, by omega⟩⟩
  clear HR0
  case round =>
    obtain ⟨k, Cs, hk, rfl, hR⟩ := hrel
    generalize wr = wa at *
    obtain ⟨hC, hB, hKm, hsz⟩ := hR.out
    by_cases hlt : k < T
    · have hil : (k : Int) < (T : Int) := by omega
      have hk1 := Lib.hid (show k + 1 ≤ T by omega)
      have kmc := hKm.cell
      have HC := Lib.hid hC
      have HB := Lib.hid hB
      have HKm := Lib.hid hKm
      clear hR hC hB hKm
      go_wp2_with fail
      go_loopw [5, 22] (fun ll ii wr => ∃ (i : Nat) (A' : Option Addr) (c' : Nat), i ≤ sh.length ∧ ii = .int .i64 i ∧ ll = .slice A' ((sh.take i).flatMap (shCuts k)).length c' ∧ Hid (wr.ownsRow wa.heap.size 3 1 (.slice A' ((sh.take i).flatMap (shCuts k)).length c') ((sh.take i).flatMap (shCuts k)).length (((sh.take i).flatMap (shCuts k)).flatMap intC) ∧ Below wa.heap.size wa wr)) (fun _ ii _ => sh.length - (vInt ii).toNat)
      case atStart => exact ⟨0, none, 0, Nat.zero_le _, rfl, rfl, Lib.hid ⟨World.ownsRow_nil _ _ _ _, Below.refl _ _⟩⟩
      case round =>
        obtain ⟨i, A2, c2, hi, rfl, rfl, hR2⟩ := hrel
        obtain ⟨hO, hB2⟩ := hR2.out
        by_cases hlt2 : i < sh.length
        · have hil2 : (i : Int) < (sh.length : Int) := by omega
          have hi1 := Lib.hid (show i + 1 ≤ sh.length by omega)
          have hSh := Hh.out.later (HB.out.trans (hB2.mono HB.out.size))
          obtain ⟨b, off, rfl, hb, c0, c1, c3⟩ := shs_at hSh.row hlt2
          have hmem := List.getElem_mem hlt2
          have HPy := Lib.hid (fun W (hb : Below wa.heap.size wa W) => (Hh.out.later (HB.out.trans (hb.mono HB.out.size))).each _ hmem)
          have HPl := hpl _ hmem
          have Hok := Lib.hid (hok _ hmem)
          have HAc := Lib.hid (fun j => Nat.le_trans (acc_len k sh hlt2 j) (hal k))
          have HSn := Lib.hid (show (sh.take (i + 1)).flatMap (shCuts (k : Int)) = (sh.take i).flatMap (shCuts (k : Int)) ++ sh[i].parts.flatMap (partCuts (k : Int)) from flat_snoc (shCuts (k : Int)) sh hlt2)
          have hsz2 := hB2.size
          have ba := (Below.refl wr.heap.size wr).alloc (Nat.le_refl _) (.cells #[.int .i64 sh[i].weight, .int .i64 sh[i].base, .slice sh[i].P sh[i].parts.length sh[i].p] 83)
          have kn := Blk.new wr #[.int .i64 sh[i].weight, .int .i64 sh[i].base, .slice sh[i].P sh[i].parts.length sh[i].p] 83
          have knc := kn.cell
          have HO3 := Lib.hid (own_below hO ba)
          have HB3 := Lib.hid (hB2.trans (ba.mono hB2.size))
          have HBa := Lib.hid ba
          clear hR2 hO hB2 hSh hmem ba
          generalize sh[i] = y at *
          obtain ⟨weight, base, parts, P, p⟩ := y
          dsimp only at *
          generalize (sh.take i).flatMap (shCuts k) = acc at *
          go_wp2_with fail
          generalize hW3 : wr.alloc (.cells #[.int .i64 weight, .int .i64 base, .slice P parts.length p] 83) = W3 at *
          clear hW3 kn knc c0 c1 c3
          have hsz3 := HB3.out.size
          go_loopw [5, 29] (fun ll ii wq => ∃ (j : Nat) (A' : Option Addr) (c' : Nat), j ≤ parts.length ∧ ii = .int .i64 j ∧ ll = .slice A' (acc ++ (parts.take j).flatMap (partCuts k)).length c' ∧ Hid (wq.ownsRow wa.heap.size 3 1 (.slice A' (acc ++ (parts.take j).flatMap (partCuts k)).length c') (acc ++ (parts.take j).flatMap (partCuts k)).length ((acc ++ (parts.take j).flatMap (partCuts k)).flatMap intC) ∧ Below wa.heap.size wa wq)) (fun _ ii _ => parts.length - (vInt ii).toNat)
          case atStart => exact ⟨0, A2, c2, Nat.zero_le _, rfl, by simp, Lib.hid ⟨by simpa using HO3.out, HB3.out⟩⟩
          case round =>
            generalize wr = wq0 at *
            obtain ⟨j, A3, c3, hj, rfl, rfl, hR3⟩ := hrel
            obtain ⟨hO, hB3⟩ := hR3.out
            by_cases hlt3 : j < parts.length
            · have hil3 : (j : Int) < (parts.length : Int) := by omega
              have hj1 := Lib.hid (show j + 1 ≤ parts.length by omega)
              have hPy := HPy.out wq0 hB3
              obtain ⟨b3, off3, rfl, hb3, hc3⟩ := hPy.row j hlt3
              have hmem3 := List.getElem_mem hlt3
              obtain ⟨v, hv⟩ := partC_val parts[j]
              have hc9 := hc3 0 (by omega)
              rw [Nat.mul_one, Nat.add_zero] at hc9
              have hc0 : wq0.cell? ⟨b3, off3 + j, none⟩ = some v := hc9.trans (congrArg (fun l => l[0]?) hv)
              clear hc9
              have HCO := Lib.hid (cutsOf_any parts[j] v hv (k : Int) wq0 (hPy.each _ hmem3) (Hok.out _ hmem3))
              have HPn := partCuts_len (Hok.out _ hmem3) (k : Int)
              have HA0 := HAc.out j
              have HSn3 := Lib.hid (flat_snoc (partCuts (k : Int)) parts hlt3)
              have HO := Lib.hid hO
              have hsz4 := hB3.size
              clear hR3 hO hPy hmem3 hc3 hv
              generalize partCuts (k : Int) parts[j] = pc at *
              generalize (parts.take j).flatMap (partCuts (k : Int)) = acd at *
              obtain ⟨ax, Hax⟩ : ∃ z, Hid (z = acc ++ acd) := ⟨_, Lib.hid rfl⟩
              rw [← Hax.out] at HO HA0 ⊢
              go_wp2_with (first
                | (go_at_call 62; (with_reducible refine (HCO.out).mono ?_); rintro e w5 ⟨A5, c5, rfl, o5, h5⟩; have oL := own_below HO.out h5; have f5 : Flat 1 intC w5 w5.heap.size A5 pc := Flat.of_own intC_len (by decide) o5; have h5s := h5.size)
                | (at_builtin; refine wpList_append_src _ rfl (.tmp 33) (.tmp 36) 26 rfl wa.heap.size 3 i4 _ 1 8 Tryz.underlying26 hi4 hq0 hq1 hq2 rfl (by decide) _ _ _ rfl oL A5 pc.length c5 (pc.flatMap intC) rfl (flat_len intC_len pc) (fun e => by subst e; exact Flat.none_ f5) (Flat.news intC_len (by decide) f5) (flat_ones intC_one pc) (by unfold maxLen; omega) (by omega) (by omega) ?_; intro v6 w6 hown6 hg6 _; obtain ⟨A6, c6, rfl⟩ := own_slice hown6))
              have hB6 := (hB3.trans (h5.mono hB3.size)).grown hg6 (by omega) (fun k e => (oL.lt k e).1)
              have hle : acc ++ (acd ++ pc) = ax ++ pc := by rw [Hax.out, List.append_assoc]
              go_roundw
              case rel =>
                refine ⟨j + 1, A6, c6, hj1.out, by go_num, ?_, Lib.hid ⟨?_, hB6⟩⟩
                · rw [HSn3.out, hle, List.length_append]
                · rw [HSn3.out, hle, List.length_append, List.flatMap_append]; exact hown6
              case measure => have h9 := hj1.out; simp [vInt]; omega
            · have hil3 : ¬ (j : Int) < (parts.length : Int) := by omega
              obtain rfl : j = parts.length := by omega
              rw [List.take_length] at hO
              go_wp2_with fail
              go_roundw
              case rel => exact ⟨i + 1, A3, c3, hi1.out, by go_num, by rw [HSn.out, List.take_length], Lib.hid ⟨by rw [HSn.out]; exact hO, hB3⟩⟩
              case measure => have h9 := hi1.out; simp [vInt]; omega
        · have hil2 : ¬ (i : Int) < (sh.length : Int) := by omega
          obtain rfl : i = sh.length := by omega
          have htk : (sh.take sh.length).flatMap (shCuts (k : Int)) = allCuts (k : Int) sh := by rw [List.take_length]; rfl
          have hallk := hal k
          obtain ⟨ac, Hac⟩ : ∃ z, Hid (z = allCuts (k : Int) sh) := ⟨_, Lib.hid rfl⟩
          rw [htk, ← Hac.out] at hO ⊢
          rw [← Hac.out] at hallk
          have HAs1 := Lib.hid (HAs A2 c2 ac hallk wr (Flat.of_own intC_len (by decide) hO))
          have hcc := HC.out.own
          have hogl := (hcc.lt _ rfl).2
          have hB2s := hB2.size
          have HB2 := Lib.hid hB2
          have hcl0 : ∃ u, wa.cell? ⟨w.heap.size + 1, k, none⟩ = some u := by
            have h9 := hcc.cellAt k (by omega)
            have h8 : k < (Cs.flatMap cutC).length := by rw [flat_len cutC_len, HC.out.len]; omega
            rw [List.getElem?_eq_getElem h8] at h9
            exact ⟨_, h9⟩
          obtain ⟨u0, hu0⟩ := hcl0
          have hfz := hcc.frozenAt k
          clear hR2 hO hB2 htk
          go_wp2_with (go_at_call 63; (with_reducible refine (HAs1.out).mono ?_); rintro e w7 ⟨A7, c7, rfl, f7, h7⟩; have h7c := ((HB2.out.trans (h7.mono HB2.out.size)).cell (p := ⟨w.heap.size + 1, k, none⟩) hogl).trans hu0; have h7f := ((bcell (HB2.out.trans (h7.mono HB2.out.size))).2 (w.heap.size + 1) k hogl).trans hfz)
          go_roundw
          case rel =>
            have e := Hac.out
            subst e
            have hb7 := HB2.out.trans (h7.mono HB2.out.size)
            have h7s := h7.size
            refine ⟨k + 1, _, hk1.out, by go_num, Lib.hid ⟨RowsC.put HC.out hlt hb7 (f7.imp (fun b _ hp => by omega)) hogl (by omega), ?_, ?_, ?_⟩⟩
            · exact (HB.out.trans (hb7.mono HB.out.size)).setCell (p := ⟨w.heap.size + 1, k, none⟩) (by show w.heap.size ≤ w.heap.size + 1; omega) _
            · exact (Below.heap_setCell _ _ _ _ (by show w.heap.size ≠ w.heap.size + 1; omega)).trans (HKm.out.below hb7 HKm.out.lt)
            · simp; have := hb7.size; omega
          case measure => have h9 := hk1.out; simp [vInt]; omega
    · have hil : ¬ (k : Int) < (T : Int) := by omega
      obtain rfl : k = T := by omega
      go_wp2_with fail
      go_ret
      have hown := hC.own
      rw [← hC.len] at hown
      refine ⟨some ⟨w.heap.size + 1, 0, none⟩, k, Cs, by simp, hC.len, FlatP.of_own cutC_len (by decide) hown (fun b hb _ _ => hb), fun q hq => (hC.each q hq).imp (fun b _ hp => hp.1), fun j => ?_, fun q hq => ?_, hB⟩
      · by_cases hj : j < k
        · rw [hC.l j hj]
        · rw [if_neg hj, List.getD_eq_getElem?_getD, List.getElem?_eq_none (by rw [hC.len]; omega)]; rfl
      · obtain ⟨j, hj, rfl⟩ := List.getElem_of_mem hq
        have h8 := hC.l j (by rw [← hC.len]; exact hj)
        rw [getD_lt Cs default hj, if_pos (by rw [← hC.len]; exact hj)] at h8
        rw [h8]
        exact Nat.le_trans (ordI_len _) (hal _)
end Go.Proofs.YtpahcbhikmfamaaGreat

namespace Go.Proofs.YtpahcbhikmfamaaGreat
open Go.RowKit Go.Maps

theorem range_pick {α : Type} (f : Nat → List α) (k : Nat) : ∀ n, (List.range n).flatMap (fun i => if i = k then f i else []) = if k < n then f k else []
  | 0 => by simp
  | n + 1 => by
    rw [List.range_succ, List.flatMap_append, range_pick f k n]
    by_cases h1 : k < n
    · have h2 : ¬ n = k := by omega
      simp [h1, h2, show k < n + 1 by omega]
    · by_cases h3 : n = k
      · subst h3; simp
      · simp [h1, h3, show ¬ k < n + 1 by omega]
theorem cardCuts_eq (l : List SclD) (k : Nat) : (cardParts l).flatMap (partCuts (k : Int)) = ((l.map SclD.v).getD k default).cuts := by
  unfold cardParts
  rw [List.flatMap_map]
  have e : (fun i => partCuts (k : Int) (.scl (l.getD i default) i)) = fun i => if i = k then (l.getD i default).v.cuts else [] := by
    funext i
    simp only [partCuts]
    by_cases h : i = k
    · subst h; simp
    · rw [if_neg (by omega), if_neg h]
  rw [e, range_pick]
  by_cases h : k < l.length
  · rw [if_pos h, getD_lt l default h, getD_lt (l.map SclD.v) default (by simpa using h), List.getElem_map]
  · rw [if_neg h, List.getD_eq_getElem?_getD, List.getElem?_eq_none (by simpa using h)]; rfl
theorem allCuts_eq {traits need : Int} {cl : List CrdD} {tl : List TreD} {sh : List ShD} (h : sh.map ShD.core = cl.map crdCore ++ tl.map treCore) (k : Nat) : allCuts (k : Int) sh = cutsT ⟨traits, cl.map CrdD.v, tl.map TreD.v, need⟩ k := by
  have e1 : allCuts (k : Int) sh = (sh.map ShD.core).flatMap fun c => c.2.2.flatMap (partCuts (k : Int)) := by
    rw [List.flatMap_map]; rfl
  rw [e1, h, List.flatMap_append, List.flatMap_map, List.flatMap_map]
  unfold cutsT
  rw [List.flatMap_map, List.flatMap_map]
  congr 1
  · congr 1
    funext c
    exact cardCuts_eq c.scales k
  · congr 1
    funext t
    simp [treCore, partCuts]
theorem flatMap_len {α β : Type} {f : α → List β} {b : Nat} : ∀ {l : List α}, (∀ x ∈ l, (f x).length ≤ b) → (l.flatMap f).length ≤ l.length * b
  | [], _ => by simp
  | x :: l, h => by
    have h1 := h x (List.mem_cons_self ..)
    have h2 := flatMap_len (l := l) (fun y hy => h y (List.mem_cons_of_mem _ hy))
    rw [List.flatMap_cons, List.length_append, List.length_cons, Nat.succ_mul]; omega
theorem cutsT_len {traits need : Int} {cl : List CrdD} {tl : List TreD} {C T : Option Addr} {c t : Nat} (hls : MdlLe ⟨traits, cl, C, c, tl, T, t, need⟩) (k : Nat) : (cutsT ⟨traits, cl.map CrdD.v, tl.map TreD.v, need⟩ k).length ≤ 1000 := by
  unfold cutsT
  rw [List.length_append]
  have h1 : ((cl.map CrdD.v).flatMap fun c => (c.scales.getD k default).cuts).length ≤ (cl.map CrdD.v).length * 10 := flatMap_len fun x hx => by
    obtain ⟨y, hy, rfl⟩ := List.mem_map.1 hx
    show ((y.scales.map SclD.v).getD k default).cuts.length ≤ 10
    by_cases hk : k < y.scales.length
    · rw [getD_lt (y.scales.map SclD.v) default (by simpa using hk), List.getElem_map]
      exact (hls.scl y hy _ (List.getElem_mem hk)).cuts
    · rw [List.getD_eq_getElem?_getD, List.getElem?_eq_none (by simpa using hk)]; exact Nat.zero_le _
  have h2 : ((tl.map TreD.v).flatMap fun t => nodCuts (k : Int) t.nodes).length ≤ (tl.map TreD.v).length * 20 := flatMap_len fun x hx => by
    obtain ⟨y, hy, rfl⟩ := List.mem_map.1 hx
    exact Nat.le_trans (nodCuts_len _ _) (hls.nodes y hy)
  have h3 := hls.cards
  have h4 := hls.trees
  rw [List.length_map] at h1 h2
  simp only at h3 h4 ⊢
  omega
theorem parts_ok {traits need : Int} {cl : List CrdD} {tl : List TreD} {C T : Option Addr} {c t : Nat} {sh : List ShD} (hls : MdlLe ⟨traits, cl, C, c, tl, T, t, need⟩) (h : sh.map ShD.core = cl.map crdCore ++ tl.map treCore) : ∀ y ∈ sh, y.parts.length ≤ 10 ∧ ∀ q ∈ y.parts, CutOk q := fun y hy => by
  rcases core_cases h y hy with ⟨x, hx, _, _, e⟩ | ⟨x, hx, _, _, e⟩
  · rw [e]
    refine ⟨by rw [cardParts_len]; exact hls.scales x hx, fun q hq => ?_⟩
    obtain ⟨z, k, hz, _, rfl⟩ := cardParts_mem hq
    exact ⟨fun x' i e' => by cases e'; exact (hls.scl x hx z hz).cuts, fun y' e' => by cases e'⟩
  · rw [e]
    refine ⟨by simp, fun q hq => ?_⟩
    rw [List.mem_singleton] at hq
    subst hq
    exact ⟨fun x' i e' => (by cases e'), fun y' e' => (by cases e'; exact hls.nodes x hx)⟩
theorem stepsI_ne (lo hi : Int) (cs : List Int) : stepsI lo hi cs ≠ [] := fun e => by
  have := (stepsI_mem lo hi cs lo).2 (.inl rfl)
  rw [e] at this; cases this
theorem vecs_ne : ∀ {L : List (List Int)}, (∀ l ∈ L, l ≠ []) → vecs L ≠ []
  | [], _ => by simp [vecs]
  | l :: L, h => by
    obtain ⟨x, hx⟩ := List.exists_mem_of_ne_nil l (h l (List.mem_cons_self ..))
    obtain ⟨v, hv⟩ := List.exists_mem_of_ne_nil _ (vecs_ne (L := L) fun y hy => h y (List.mem_cons_of_mem _ hy))
    intro e
    have : (x :: v) ∈ vecs (l :: L) := List.mem_flatMap.2 ⟨x, hx, List.mem_map.2 ⟨v, hv, rfl⟩⟩
    rw [e] at this; cases this
theorem listsS_eq {traits need : Int} {cl : List CrdD} {tl : List TreD} {sh : List ShD} {T : Nat} {sp : List Spn} (h : sh.map ShD.core = cl.map crdCore ++ tl.map treCore) (hT : sp.length = T) : listsS T sp (fun k => allCuts (k : Int) sh) = vecs (stepsL ⟨traits, cl.map CrdD.v, tl.map TreD.v, need⟩ sp) := by
  subst hT
  unfold listsS stepsL
  congr 1
  apply List.map_congr_left
  intro k _
  simp only
  rw [allCuts_eq (traits := traits) (need := need) h k]
theorem listsS_ne (T : Nat) (sp : List Spn) (cs : Nat → List Int) : listsS T sp cs ≠ [] := vecs_ne fun l hl => by
  obtain ⟨k, _, rfl⟩ := List.mem_map.1 hl
  exact stepsI_ne _ _ _
end Go.Proofs.YtpahcbhikmfamaaGreat

namespace Go.Proofs.YtpahcbhikmfamaaGreat
open Go.RowKit Go.Maps

theorem sp_put {w : World} {g : Nat} {a0 a1 c0 c1 : Value} {t : TypeId} (h : Blk w g #[a0, a1] t) : Blk ((w.setCell ⟨g, 0, none⟩ c0).setCell ⟨g, 1, none⟩ c1) g #[c0, c1] t := by
  have := (h.set 0 c0).set 1 c1
  simpa using this
set_option maxRecDepth 100000 in
set_option maxHeartbeats 4000000 in
theorem betweenP_bad (traits need : Int) (cl : List CrdD) (tl : List TreD) (C T : Option Addr) (c t : Nat) (sp : List Spn) (SA : Option Addr) (sc : Nat) (w : World) (h : MdlAt w w.heap.size ⟨traits, cl, C, c, tl, T, t, need⟩) (hls : MdlLe ⟨traits, cl, C, c, tl, T, t, need⟩) (hq : mdlB ⟨traits, cl.map CrdD.v, tl.map TreD.v, need⟩ = false) :
    Calls Tryz.prog 11 #[.agg #[.int .i64 traits, .slice C cl.length c, .slice T tl.length t, .int .i64 need], .slice SA sp.length sc] w fun e w' => e = .returned (.tuple #[.agg #[.int .i64 0, .int .i64 0], .int .i64 60]) ∧ Below w.heap.size w w' := by
  have b1 := (Below.refl w.heap.size w).alloc (Nat.le_refl _) (.cells #[.int .i64 traits, .slice C cl.length c, .slice T tl.length t, .int .i64 need] 25)
  have k1 := Blk.new w #[.int .i64 traits, .slice C cl.length c, .slice T tl.length t, .int .i64 need] 25
  have k1c := k1.cell
  have b1s := b1.size
  have b2 := b1.alloc b1s (.cells #[.int .i64 0, .int .i64 0] 54)
  have k2 := k1.alloc (.cells #[.int .i64 0, .int .i64 0] 54)
  have kr := newAt' (w.alloc (.cells #[.int .i64 traits, .slice C cl.length c, .slice T tl.length t, .int .i64 need] 25)) #[.int .i64 0, .int .i64 0] 54 (g := w.heap.size + 1) (by simp)
  have HC := Lib.hid (fun W hb => open_bad traits need cl tl C T c t W (h.later (w' := W) hb) hls hq)
  go_enter Tryz.func11, Tryz.ntmps11
  go_wp2_with fail
  generalize hW2 : (w.alloc (.cells #[.int .i64 traits, .slice C cl.length c, .slice T tl.length t, .int .i64 need] 25)).alloc (.cells #[.int .i64 0, .int .i64 0] 54) = W2 at *
  have hs2 := kr.lt
  clear hW2 k1c k1 b1 b1s h
  have b2s := b2.size
  go_wp2_with (go_at_call 22; (with_reducible refine (HC.out _ b2).mono ?_); rintro e w5 ⟨rfl, h5⟩; have b5 := b2.trans (h5.mono b2s); have k5 := (kr.below h5 hs2).alloc (.cells #[.int .i64 0, .slice none 0 0, .slice none 0 0, .int .i64 0, .slice none 0 0] 66); have k5c := k5.cell; have z0 := k5.free 0; have z1 := k5.free 1)
  have hrc := (sp_put (c0 := .int .i64 0) (c1 := .int .i64 0) k5).cell
  exact bodyPost_ret (v := .tuple #[.agg #[.int .i64 0, .int .i64 0], .int .i64 60]) (by simp [results, Tryz.results11, go_sem, hrc]) rfl ⟨rfl, ((b5.alloc b5.size (.cells #[.int .i64 0, .slice none 0 0, .slice none 0 0, .int .i64 0, .slice none 0 0] 66)).setCell (p := ⟨w.heap.size + 1, 0, none⟩) (by simp) _).setCell (p := ⟨w.heap.size + 1, 1, none⟩) (by simp) _⟩

set_option maxRecDepth 100000 in
set_option maxHeartbeats 4000000 in
theorem betweenP_spans (traits need : Int) (cl : List CrdD) (tl : List TreD) (C T : Option Addr) (c t : Nat) (sp : List Spn) (SA : Option Addr) (sc : Nat) (w : World) (h : MdlAt w w.heap.size ⟨traits, cl, C, c, tl, T, t, need⟩) (hls : MdlLe ⟨traits, cl, C, c, tl, T, t, need⟩) (hx : SpnsAt w w.heap.size SA sp) (hxl : sp.length ≤ 10) (hq : mdlB ⟨traits, cl.map CrdD.v, tl.map TreD.v, need⟩ = true) (hv : spnsB traits sp = false) :
    Calls Tryz.prog 11 #[.agg #[.int .i64 traits, .slice C cl.length c, .slice T tl.length t, .int .i64 need], .slice SA sp.length sc] w fun e w' => e = .returned (.tuple #[.agg #[.int .i64 0, .int .i64 0], .int .i64 61]) ∧ Below w.heap.size w w' := by
  have b1 := (Below.refl w.heap.size w).alloc (Nat.le_refl _) (.cells #[.int .i64 traits, .slice C cl.length c, .slice T tl.length t, .int .i64 need] 25)
  have k1 := Blk.new w #[.int .i64 traits, .slice C cl.length c, .slice T tl.length t, .int .i64 need] 25
  have k1c := k1.cell
  have b1s := b1.size
  have b2 := b1.alloc b1s (.cells #[.int .i64 0, .int .i64 0] 54)
  have k2 := k1.alloc (.cells #[.int .i64 0, .int .i64 0] 54)
  have kr := newAt' (w.alloc (.cells #[.int .i64 traits, .slice C cl.length c, .slice T tl.length t, .int .i64 need] 25)) #[.int .i64 0, .int .i64 0] 54 (g := w.heap.size + 1) (by simp)
  have HC := Lib.hid (fun W hb => open_all traits need cl tl C T c t W (h.later (w' := W) hb) hls hq)
  have HV := Lib.hid (fun (S : Option Addr) (n s : Nat) W hb => spansV_any traits need C T S cl.length c tl.length t n s sp SA sc W (hx.later (w' := W) hb) hxl)
  rw [hv] at HV
  clear hx
  go_enter Tryz.func11, Tryz.ntmps11
  go_wp2_with fail
  generalize hW2 : (w.alloc (.cells #[.int .i64 traits, .slice C cl.length c, .slice T tl.length t, .int .i64 need] 25)).alloc (.cells #[.int .i64 0, .int .i64 0] 54) = W2 at *
  have hs2 := kr.lt
  clear hW2 k1c k1 b1 b1s h
  have b2s := b2.size
  go_wp2_with (first
    | (go_at_call 22; (with_reducible refine (HC.out _ b2).mono ?_); rintro e w5 ⟨S, s, sh, rfl, _, _, h5⟩; have b5 := b2.trans (h5.mono b2s); have b5a := b5.alloc b5.size (.cells #[.int .i64 traits, .slice C cl.length c, .slice T tl.length t, .int .i64 need, .slice S (cl.length + tl.length) s] 66); have k5 := (kr.below h5 hs2).alloc (.cells #[.int .i64 traits, .slice C cl.length c, .slice T tl.length t, .int .i64 need, .slice S (cl.length + tl.length) s] 66); have k5c := k5.cell; have kw := Blk.new w5 #[.int .i64 traits, .slice C cl.length c, .slice T tl.length t, .int .i64 need, .slice S (cl.length + tl.length) s] 66; have kwc := kw.cell)
    | (go_at_call 23; (with_reducible refine (HV.out S (cl.length + tl.length) s _ b5a).mono ?_); rintro e w6 ⟨rfl, h6⟩; have b6 := b5a.trans (h6.mono b5a.size); have k6 := k5.below h6 k5.lt; have k6c := k6.cell; have z0 := k6.free 0; have z1 := k6.free 1))
  have hrc := (sp_put (c0 := .int .i64 0) (c1 := .int .i64 0) k6).cell
  exact bodyPost_ret (v := .tuple #[.agg #[.int .i64 0, .int .i64 0], .int .i64 61]) (by simp [results, Tryz.results11, go_sem, hrc]) rfl ⟨rfl, (b6.setCell (p := ⟨w.heap.size + 1, 0, none⟩) (by simp) _).setCell (p := ⟨w.heap.size + 1, 1, none⟩) (by simp) _⟩

set_option maxRecDepth 100000 in
set_option maxHeartbeats 4000000 in
theorem betweenP_good (traits need : Int) (cl : List CrdD) (tl : List TreD) (C T : Option Addr) (c t : Nat) (sp : List Spn) (SA : Option Addr) (sc : Nat) (w : World) (h : MdlAt w w.heap.size ⟨traits, cl, C, c, tl, T, t, need⟩) (hls : MdlLe ⟨traits, cl, C, c, tl, T, t, need⟩) (hx : SpnsAt w w.heap.size SA sp) (hxl : sp.length ≤ 10) (hq : mdlB ⟨traits, cl.map CrdD.v, tl.map TreD.v, need⟩ = true) (hv : spnsB traits sp = true) (lo hi : Int) (HBT : ∀ (S : Option Addr) (s : Nat) (sh : List ShD) (W : World), Below w.heap.size w W → sh.map ShD.core = cl.map crdCore ++ tl.map treCore → sh.length = cl.length + tl.length → SharesAt W W.heap.size S sh → Calls Tryz.prog 24 #[.agg #[.int .i64 traits, .slice C cl.length c, .slice T tl.length t, .int .i64 need, .slice S (cl.length + tl.length) s], .slice SA sp.length sc] W fun e w' => e = .returned (.agg #[.int .i64 lo, .int .i64 hi]) ∧ Below W.heap.size W w') :
    Calls Tryz.prog 11 #[.agg #[.int .i64 traits, .slice C cl.length c, .slice T tl.length t, .int .i64 need], .slice SA sp.length sc] w fun e w' => e = .returned (.tuple #[.agg #[.int .i64 lo, .int .i64 hi], .int .i64 0]) ∧ Below w.heap.size w w' := by
  have b1 := (Below.refl w.heap.size w).alloc (Nat.le_refl _) (.cells #[.int .i64 traits, .slice C cl.length c, .slice T tl.length t, .int .i64 need] 25)
  have k1 := Blk.new w #[.int .i64 traits, .slice C cl.length c, .slice T tl.length t, .int .i64 need] 25
  have k1c := k1.cell
  have b1s := b1.size
  have b2 := b1.alloc b1s (.cells #[.int .i64 0, .int .i64 0] 54)
  have k2 := k1.alloc (.cells #[.int .i64 0, .int .i64 0] 54)
  have kr := newAt' (w.alloc (.cells #[.int .i64 traits, .slice C cl.length c, .slice T tl.length t, .int .i64 need] 25)) #[.int .i64 0, .int .i64 0] 54 (g := w.heap.size + 1) (by simp)
  have HC := Lib.hid (fun W hb => open_all traits need cl tl C T c t W (h.later (w' := W) hb) hls hq)
  have HV := Lib.hid (fun (S : Option Addr) (n s : Nat) W hb => spansV_any traits need C T S cl.length c tl.length t n s sp SA sc W (hx.later (w' := W) hb) hxl)
  rw [hv] at HV
  have HB := Lib.hid HBT
  have HSh := Lib.hid (fun (sh : List ShD) (hco : sh.map ShD.core = cl.map crdCore ++ tl.map treCore) (S : Option Addr) (s lo : Nat) W (hi : ShInv W lo S s (cl.length + tl.length) sh) (hb : Below w.heap.size w W) => hi.at_ (fun y hy q hq => ((core_parts h hco y hy q hq).below hb).more hb.size))
  clear hx HBT
  go_enter Tryz.func11, Tryz.ntmps11
  go_wp2_with fail
  generalize hW2 : (w.alloc (.cells #[.int .i64 traits, .slice C cl.length c, .slice T tl.length t, .int .i64 need] 25)).alloc (.cells #[.int .i64 0, .int .i64 0] 54) = W2 at *
  have hs2 := kr.lt
  clear hW2 k1c k1 b1 b1s h
  have b2s := b2.size
  go_wp2_with (first
    | (go_at_call 22; (with_reducible refine (HC.out _ b2).mono ?_); rintro e w5 ⟨S, s, sh, rfl, hco, hat, h5⟩; have HO := Lib.hid hco; have HA := Lib.hid hat; clear hco hat; have b5 := b2.trans (h5.mono b2s); have b5a := b5.alloc b5.size (.cells #[.int .i64 traits, .slice C cl.length c, .slice T tl.length t, .int .i64 need, .slice S (cl.length + tl.length) s] 66); have ba := (Below.refl w5.heap.size w5).alloc (Nat.le_refl _) (.cells #[.int .i64 traits, .slice C cl.length c, .slice T tl.length t, .int .i64 need, .slice S (cl.length + tl.length) s] 66); have k5 := (kr.below h5 hs2).alloc (.cells #[.int .i64 traits, .slice C cl.length c, .slice T tl.length t, .int .i64 need, .slice S (cl.length + tl.length) s] 66); have k5c := k5.cell; have kw := Blk.new w5 #[.int .i64 traits, .slice C cl.length c, .slice T tl.length t, .int .i64 need, .slice S (cl.length + tl.length) s] 66; have kwc := kw.cell)
    | (go_at_call 23; (with_reducible refine (HV.out S (cl.length + tl.length) s _ b5a).mono ?_); rintro e w6 ⟨rfl, h6⟩; have b6 := b5a.trans (h6.mono b5a.size); have k6 := k5.below h6 k5.lt; have k6c := k6.cell; have kw6 := kw.below h6 kw.lt; have kw6c := kw6.cell; have hA6 := (HA.out.below ba).below h6)
    | (go_at_call 24; (with_reducible refine (HB.out S s sh _ b6 HO.out (ShInv.len HA.out) (HSh.out sh HO.out S s _ _ hA6 b6)).mono ?_); rintro e w7 ⟨rfl, h7⟩; have b7 := b6.trans (h7.mono b6.size); have k7 := k6.below h7 k6.lt; have k7c := k7.cell; have z0 := k7.free 0; have z1 := k7.free 1))
  have hrc := (sp_put (c0 := .int .i64 lo) (c1 := .int .i64 hi) k7).cell
  exact bodyPost_ret (v := .tuple #[.agg #[.int .i64 lo, .int .i64 hi], .int .i64 0]) (by simp [results, Tryz.results11, go_sem, hrc]) rfl ⟨rfl, (b7.setCell (p := ⟨w.heap.size + 1, 0, none⟩) (by simp) _).setCell (p := ⟨w.heap.size + 1, 1, none⟩) (by simp) _⟩

end Go.Proofs.YtpahcbhikmfamaaGreat
