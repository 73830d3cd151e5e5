/- The cuts of a part, by the program. Written by a program. -/
import Derived.Test.YtpahcbhikmfamaaGreatWQ1
import Derived.Test.YtpahcbhikmfamaaGreatSPrg10
import Derived.Test.YtpahcbhikmfamaaGreatSBDat
import Derived.Deep.AppendSrc

namespace Go.Proofs.YtpahcbhikmfamaaGreat
open Go.RowKit Go.Maps

theorem one_new (W : World) (z : Int) (t : TypeId) : ∀ j u, (intC z)[j]? = some u → (W.alloc (.cells #[.int .i64 z] t)).cell? ((⟨W.heap.size, 0, none⟩ : Addr).add j) = some u := fun j u hj => by
  have h := (Blk.new W #[.int .i64 z] t).cell j
  rw [show ((⟨W.heap.size, 0, none⟩ : Addr).add j) = ⟨W.heap.size, j, none⟩ by rw [Addr.add]; simp; exact fun h => h.symm]
  refine h.trans ?_
  rw [← hj]; simp [intC]
theorem as_scl (v : Value) (w : World) : (Instr.typeAssert (.iface 104 v) 102 104 true).run Tryz.prog w = .ok (.tuple #[v, .bool true]) w := by kernel_rfl
theorem as_tre (v : Value) (w : World) : (Instr.typeAssert (.iface 87 v) 102 87 true).run Tryz.prog w = .ok (.tuple #[v, .bool true]) w := by kernel_rfl
theorem as_tre_no (v : Value) (w : World) : (Instr.typeAssert (.iface 87 v) 102 104 true).run Tryz.prog w = .ok (.tuple #[.agg #[.slice none 0 0, .slice none 0 0, .int .i64 0, .int .i64 0], .bool false]) w := by kernel_rfl
attribute [local go_sem] as_scl as_tre as_tre_no
set_option maxRecDepth 100000 in
set_option maxHeartbeats 4000000 in
theorem cutsOf_scl (x : SclD) (i k : Int) (w : World) (h : SclAt w w.heap.size x) (hl : x.v.cuts.length ≤ 10) :
    Calls Tryz.prog 62 #[.iface 104 (.agg #[.slice x.A x.v.cuts.length x.a, .slice x.B x.v.pts.length x.b, .int .i64 x.v.non, .int .i64 i]), .int .i64 k] w fun e w' => ∃ A' c', e = .returned (.slice A' (if i = k then x.v.cuts else []).length c') ∧ w'.ownsRow w.heap.size 3 1 (.slice A' (if i = k then x.v.cuts else []).length c') (if i = k then x.v.cuts else []).length ((if i = k then x.v.cuts else []).flatMap intC) ∧ Below w.heap.size w w' := by
  obtain ⟨i4, hi4, hq0, hq1, hq2⟩ := info_parts intInfo
  have b1 := (Below.refl w.heap.size w).alloc (Nat.le_refl _) (.cells #[.slice x.A x.v.cuts.length x.a, .slice x.B x.v.pts.length x.b, .int .i64 x.v.non, .int .i64 i] 104)
  have k1 := Blk.new w #[.slice x.A x.v.cuts.length x.a, .slice x.B x.v.pts.length x.b, .int .i64 x.v.non, .int .i64 i] 104
  have k1c := k1.cell
  have hc := (h.later b1).cuts
  have hn : x.A = none → x.v.cuts.length = 0 := fun e => by rw [e] at hc; exact Flat.none_ hc
  have hown0 := World.ownsRow_nil (w.alloc (.cells #[.slice x.A x.v.cuts.length x.a, .slice x.B x.v.pts.length x.b, .int .i64 x.v.non, .int .i64 i] 104)) w.heap.size 3 1
  by_cases hik : i = k
  · have hk2 : (i == k) = true := by simpa using hik
    rw [if_pos hik]
    subst hik
    go_enter Tryz.func62, Tryz.ntmps62
    go_wp2_with (at_builtin; refine wpList_append_src _ rfl (.tmp 18) (.tmp 21) 26 rfl w.heap.size 3 i4 _ 1 8 Tryz.underlying26 hi4 hq0 hq1 hq2 rfl (by decide) _ 0 [] rfl hown0 x.A x.v.cuts.length x.a (x.v.cuts.flatMap intC) rfl (flat_len intC_len x.v.cuts) hn (Flat.news intC_len (by decide) hc) (flat_ones intC_one x.v.cuts) (by unfold maxLen; omega) (by omega) (by simp) ?_; intro v1 w3 hown1 hg1 _; obtain ⟨A1, c1, rfl⟩ := own_slice hown1)
    simp only [Nat.zero_add, List.nil_append] at hown1
    go_ret
    exact ⟨A1, c1, by simp, hown1, b1.grown hg1 b1.size (fun k e => (hown0.lt k e).1)⟩
  · have hk2 : (i == k) = false := by simpa using hik
    rw [if_neg hik]
    go_enter Tryz.func62, Tryz.ntmps62
    go_wp2_with fail
    go_ret
    exact ⟨none, 0, rfl, hown0, b1⟩
theorem nodCuts_snoc (k : Int) (l : List Nod) {i : Nat} (h : i < l.length) : nodCuts k (l.take (i + 1)) = nodCuts k (l.take i) ++ (if l[i].tr = k then [l[i].cut] else []) := by
  unfold nodCuts
  rw [List.take_succ_eq_append_getElem h, List.filter_append, List.map_append]
  by_cases hk : l[i].tr = k <;> simp [hk]
theorem nodCuts_yes (k : Int) (l : List Nod) {i : Nat} (h : i < l.length) (hk : l[i].tr = k) : nodCuts k (l.take (i + 1)) = nodCuts k (l.take i) ++ [l[i].cut] := by rw [nodCuts_snoc k l h]; simp [hk]
theorem nodCuts_no (k : Int) (l : List Nod) {i : Nat} (h : i < l.length) (hk : ¬ l[i].tr = k) : nodCuts k (l.take (i + 1)) = nodCuts k (l.take i) := by rw [nodCuts_snoc k l h]; simp [hk]
theorem nodCuts_len (k : Int) (l : List Nod) : (nodCuts k l).length ≤ l.length := by unfold nodCuts; rw [List.length_map]; exact List.length_filter_le _ _
set_option maxRecDepth 100000 in
set_option maxHeartbeats 4000000 in
theorem cutsOf_tre (wt : Int) (l : List Nod) (T : Option Addr) (t : Nat) (k : Int) (w : World) (h : NodsAt w w.heap.size T l) (hl : l.length ≤ 20) :
    Calls Tryz.prog 62 #[.iface 87 (.agg #[.int .i64 wt, .slice T l.length t]), .int .i64 k] w fun e w' => ∃ A' c', e = .returned (.slice A' (nodCuts k l).length c') ∧ w'.ownsRow w.heap.size 3 1 (.slice A' (nodCuts k l).length c') (nodCuts k l).length ((nodCuts k l).flatMap intC) ∧ Below w.heap.size w w' := by
  obtain ⟨i4, hi4, hq0, hq1, hq2⟩ := info_parts intInfo
  have b1 := (Below.refl w.heap.size w).alloc (Nat.le_refl _) (.cells #[.int .i64 wt, .slice T l.length t] 87)
  have k1 := Blk.new w #[.int .i64 wt, .slice T l.length t] 87
  have k1c := k1.cell
  have Hh := Lib.hid (h.later b1)
  have b1s := b1.size
  go_enter Tryz.func62, Tryz.ntmps62
  go_wp2_with fail
  generalize hW1 : w.alloc (.cells #[.int .i64 wt, .slice T l.length t] 87) = W1 at *
  clear hW1 k1 k1c h
  go_loopw [5, 30] (fun ll ii wr => ∃ (i : Nat) (A' : Option Addr) (c' : Nat), i ≤ l.length ∧ ii = .int .i64 i ∧ ll = .slice A' (nodCuts k (l.take i)).length c' ∧ Hid (wr.ownsRow W1.heap.size 3 1 (.slice A' (nodCuts k (l.take i)).length c') (nodCuts k (l.take i)).length ((nodCuts k (l.take i)).flatMap intC) ∧ Below w.heap.size w wr ∧ Below W1.heap.size W1 wr)) (fun _ ii _ => l.length - (vInt ii).toNat)
  case atStart => exact ⟨0, none, 0, Nat.zero_le _, rfl, rfl, Lib.hid ⟨World.ownsRow_nil _ _ _ _, b1, Below.refl _ _⟩⟩
  case round =>
    obtain ⟨i, A2, c2, hi, rfl, rfl, hR⟩ := hrel
    obtain ⟨hO, hB, hB1⟩ := hR.out
    by_cases hlt : i < l.length
    · have hil : (i : Int) < (l.length : Int) := by omega
      obtain ⟨b, off, rfl, hb, c0, c1, c3, c4, c5⟩ := nods_at (Hh.out.later hB1) hlt
      have hsn := nodCuts_snoc k l hlt
      have hln := nodCuts_len k (l.take i)
      rw [List.length_take] at hln
      have hi1 := Lib.hid (show i + 1 ≤ l.length by omega)
      have bn := (Below.refl wr.heap.size wr).alloc (Nat.le_refl _) (.cells #[.int .i64 l[i].tr, .int .i64 l[i].cut, .int .i64 l[i].low, .int .i64 l[i].high, .int .i64 l[i].pts] 48)
      have kn := Blk.new wr #[.int .i64 l[i].tr, .int .i64 l[i].cut, .int .i64 l[i].low, .int .i64 l[i].high, .int .i64 l[i].pts] 48
      have knc := kn.cell
      by_cases hk : l[i].tr = k
      · have hk2 : (l[i].tr == k) = true := by simpa using hk
        have Hsn := Lib.hid (nodCuts_yes k l hlt hk)
        clear hsn hk
        generalize l[i] = y at *
        generalize nodCuts k (l.take i) = L at *
        have hoA := (hO.alloc (.cells #[.int .i64 y.tr, .int .i64 y.cut, .int .i64 y.low, .int .i64 y.high, .int .i64 y.pts] 48)).alloc (.cells #[.int .i64 y.cut] 3)
        clear hR
        go_wp2_with (at_builtin; refine wpList_append_own_at _ rfl _ _ 26 rfl W1.heap.size 3 i4 _ 1 8 Tryz.underlying26 hi4 hq0 hq1 hq2 rfl (by decide) _ _ _ rfl hoA ⟨wr.heap.size + 1, 0, none⟩ 1 1 (intC y.cut) rfl rfl (by have := one_new (wr.alloc (.cells #[.int .i64 y.tr, .int .i64 y.cut, .int .i64 y.low, .int .i64 y.high, .int .i64 y.pts] 48)) y.cut 3; simpa using this) (intC_one _) (by unfold maxLen; omega) (by omega) (by have := hB1.size; simp; omega) ?_; intro v' w6 hown6 hg6 _ _; obtain ⟨A3, c3', rfl⟩ := own_slice hown6)
        have hbb : Below wr.heap.size wr ((wr.alloc (.cells #[.int .i64 y.tr, .int .i64 y.cut, .int .i64 y.low, .int .i64 y.high, .int .i64 y.pts] 48)).alloc (.cells #[.int .i64 y.cut] 3)) := bn.alloc bn.size _
        go_roundw
        case rel =>
          refine ⟨i + 1, A3, c3', hi1.out, by go_num, ?_, Lib.hid ⟨?_, ?_, ?_⟩⟩
          · rw [Hsn.out]; simp
          · rw [Hsn.out]; simpa using hown6
          · exact (hB.trans (hbb.mono hB.size)).grown hg6 (by simp; have := hB.size; omega) (fun k e => by have := (hoA.lt k e).1; omega)
          · exact (hB1.trans (hbb.mono hB1.size)).grown hg6 (by simp; have := hB1.size; omega) (fun k e => (hoA.lt k e).1)
        case measure => have h9 := hi1.out; simp [vInt]; omega
      · have hk2 : (l[i].tr == k) = false := by simpa using hk
        have Hsn := Lib.hid (nodCuts_no k l hlt hk)
        clear hsn hk
        generalize l[i] = y at *
        clear hR
        go_wp2_with fail
        go_roundw
        case rel => exact ⟨i + 1, A2, c2, hi1.out, by go_num, by rw [Hsn.out], Lib.hid ⟨by rw [Hsn.out]; exact hO.alloc _, hB.trans (bn.mono hB.size), hB1.trans (bn.mono hB1.size)⟩⟩
        case measure => have h9 := hi1.out; simp [vInt]; omega
    · have hil : ¬ (i : Int) < (l.length : Int) := by omega
      obtain rfl : i = l.length := by omega
      rw [List.take_length] at hO
      go_wp2_with fail
      go_ret
      exact ⟨A2, c2, by simp, own_base hO b1s, hB⟩
end Go.Proofs.YtpahcbhikmfamaaGreat
