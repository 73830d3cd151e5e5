/- slices.DeleteFunc at reports: what is left, in its order, at the head of the same row. Written by gendel.py. -/
import Derived.Test.YtliijiflbfgfaaaDoorADel

namespace Go.Proofs.YtliijiflbfgfaaaDoor
open Go.RowKit Go.Maps

/-- While some are taken out: i are left of the first j. -/
structure DelSt (zs ml : List Rep) (k : Int) (i j : Nat) : Prop where
  len : ml.length = zs.length
  take : ml.take i = (zs.take j).filter (kindK k)
  drop : ml.drop j = zs.drop j
  lt : i < j
theorem DelSt.get {zs ml : List Rep} {k : Int} {i j : Nat} (h : DelSt zs ml k i j) (hj : j < zs.length) : ml[j]'(by rw [h.len]; exact hj) = zs[j] := by
  have h1 := h.len
  have h2 : (ml.drop j)[0]? = (zs.drop j)[0]? := by rw [h.drop]
  rw [List.getElem?_drop, List.getElem?_drop, Nat.add_zero, List.getElem?_eq_getElem (by omega), List.getElem?_eq_getElem hj] at h2
  exact Option.some.inj h2
theorem DelSt.skip {zs ml : List Rep} {k : Int} {i j : Nat} (h : DelSt zs ml k i j) (hj : j < zs.length) (hk : zs[j].kind ≠ k) : DelSt zs ml k i (j + 1) := by
  refine ⟨h.len, ?_, ?_, Nat.lt_succ_of_lt h.lt⟩
  · rw [h.take, List.take_succ_eq_append_getElem hj, List.filter_append, List.filter_cons_of_neg (by simpa [kindK] using hk)]; simp
  · have := congrArg (List.drop 1) h.drop
    rw [List.drop_drop, List.drop_drop] at this
    exact this
theorem DelSt.keep {zs ml : List Rep} {k : Int} {i j : Nat} (h : DelSt zs ml k i j) (hj : j < zs.length) (hk : zs[j].kind = k) : DelSt zs (ml.set i zs[j]) k (i + 1) (j + 1) := by
  have h1 := h.len
  have h2 := h.lt
  refine ⟨by rw [List.length_set, h1], ?_, ?_, by omega⟩
  · rw [List.take_succ_eq_append_getElem (by rw [List.length_set]; omega), List.getElem_set_self, List.take_set_of_le (by omega), h.take, List.take_succ_eq_append_getElem hj, List.filter_append, List.filter_cons_of_pos (by simpa [kindK] using hk)]; rfl
  · rw [List.drop_set_of_lt (by omega)]
    have := congrArg (List.drop 1) h.drop
    rw [List.drop_drop, List.drop_drop] at this
    exact this
theorem DelSt.start {zs : List Rep} {k : Int} {i : Nat} (hi : i < zs.length) (h : zs[i].kind ≠ k) (hn : ∀ j, (hj : j < i) → (zs[j]'(by omega)).kind = k) : DelSt zs zs k i (i + 1) := by
  refine ⟨rfl, ?_, rfl, Nat.lt_succ_self i⟩
  rw [List.take_succ_eq_append_getElem hi, List.filter_append, List.filter_cons_of_neg (by simpa [kindK] using h)]
  have : (zs.take i).filter (kindK k) = zs.take i := List.filter_eq_self.2 fun r hr => by
    obtain ⟨j, hj, rfl⟩ := List.getElem_of_mem hr
    rw [List.length_take] at hj
    rw [List.getElem_take]
    simpa [kindK] using hn j (by omega)
  rw [this]; simp
theorem DelSt.end_ {zs ml : List Rep} {k : Int} {i j : Nat} (h : DelSt zs ml k i j) (hj : zs.length ≤ j) : ml.take i = zs.filter (kindK k) := by
  rw [h.take, List.take_of_length_le hj]
theorem clear_law {P : Program} (w : World) (t e ty : TypeId) (z : Value) (ht : P.underlying t = some (.slice e)) (hv : ∀ w, (zeroValue e).run P w = .ok z w) (b o n c : Nat) (hn : 0 < n)
    (h1 : ∀ v ∈ (Builtin.zeroCells z.cells n).toList, v.oneCell' = true) (hc : ∀ j, j < (Builtin.zeroCells z.cells n).toList.length → (w.cell? ⟨b, o + j, none⟩).isSome = true) (hf : ∀ j, j < (Builtin.zeroCells z.cells n).toList.length → w.frozen? ⟨b, o + j, none⟩ = false) :
    (Builtin.clear_ #[t] ty #[.slice (some ⟨b, o, none⟩) n c]).run P w = .ok (.tuple #[]) (w.setCells b o (Builtin.zeroCells z.cells n).toList) := by
  have hst := run_storeCells_cells (P := P) b o (Builtin.zeroCells z.cells n).toList 0 w (by simpa using hc) (by simpa using hf) h1
  simp only [Nat.add_zero] at hst
  obtain ⟨m, rfl⟩ : ∃ m, n = m + 1 := ⟨n - 1, by omega⟩
  simp [Builtin.clear_, run_underlying ht, hv, hst]
theorem setCells_below {B b : Nat} (hb : B ≤ b) : ∀ (vs : List Value) (o : Nat) (w : World), Below B w (w.setCells b o vs)
  | [], _, w => Below.refl _ _
  | v :: vs, o, w => ((Below.refl B w).setCell (by show B ≤ b; exact hb) v).trans (setCells_below hb vs (o + 1) (w.setCell ⟨b, o, none⟩ v))
theorem zeroCells_one (n : Nat) : ∀ v ∈ (Builtin.zeroCells #[.int .i64 0, .int .i64 0, .int .i64 0, .int .i64 0, .int .i64 0, .int .u8 0, .int .i64 0, .int .i64 0] n).toList, v.oneCell' = true := fun v hv => by
  simp only [Builtin.zeroCells, Array.toList_map, List.mem_map] at hv
  obtain ⟨q, _, rfl⟩ := hv
  have hm : q % 8 < 8 := Nat.mod_lt _ (by omega)
  have h8 : q % 8 = 0 ∨ q % 8 = 1 ∨ q % 8 = 2 ∨ q % 8 = 3 ∨ q % 8 = 4 ∨ q % 8 = 5 ∨ q % 8 = 6 ∨ q % 8 = 7 := by omega
  show Value.oneCell' ((#[.int .i64 0, .int .i64 0, .int .i64 0, .int .i64 0, .int .i64 0, .int .u8 0, .int .i64 0, .int .i64 0] : Array Value)[q % 8]!) = true
  rcases h8 with h8 | h8 | h8 | h8 | h8 | h8 | h8 | h8 <;> rw [h8] <;> rfl
theorem zeroCells_len (n : Nat) : (Builtin.zeroCells #[.int .i64 0, .int .i64 0, .int .i64 0, .int .i64 0, .int .i64 0, .int .u8 0, .int .i64 0, .int .i64 0] n).toList.length = n * 8 := by simp [Builtin.zeroCells]

set_option maxRecDepth 100000 in
set_option maxHeartbeats 4000000 in
theorem deleteFunc_any (zs : List Rep) (A : Option Addr) (cap base : Nat) (k : Int) (kc : Nat) (w : World) (hown : w.ownsRow base 47 8 (.slice A zs.length cap) zs.length (zs.flatMap repCells)) (hbase : base ≤ w.heap.size) (hk : w.cell? ⟨kc, 0, none⟩ = some (.int .u8 k)) (hkc : kc < base) (hl : zs.length ≤ 1000) :
    Calls Tryd.prog 47 #[.slice A zs.length cap, .func (.func 48) #[] #[.pointer (some ⟨kc, 0, none⟩)]] w fun e w' => ∃ A' c', e = .returned (.slice A' (zs.filter (kindK k)).length c') ∧ Reps w' w'.heap.size A' (zs.filter (kindK k)) ∧ Below base w w' := by
  have hR := reps_own hown
  have HX := Lib.hid (indexFunc_any zs A cap k kc w hR hk (by omega) hl)
  rcases idxK_cases zs k with ⟨hx, hall⟩ | ⟨i0, hi0, hx, hne, heq⟩
  · rw [hx] at HX
    have hf : zs.filter (kindK k) = zs := List.filter_eq_self.2 fun r hr => by simp [kindK, hall r hr]
    rw [hf]
    have Hfin := Lib.hid hR
    clear hx hall hf hown hk hR
    go_enter Tryd.func47, Tryd.ntmps47
    go_wp2_with (go_at_call 52; (with_reducible refine (HX.out).mono ?_); rintro e w1 ⟨rfl, h1⟩)
    go_ret
    exact ⟨A, cap, rfl, Hfin.out.later h1, h1.mono hbase⟩
  · rw [hx] at HX
    have HS := Lib.hid (DelSt.start hi0 hne heq)
    have Hown := Lib.hid hown
    obtain ⟨g, cap', hv, hbg, hgl⟩ := hown.form (by omega)
    simp only [Value.slice.injEq, true_and] at hv
    obtain ⟨rfl, rfl⟩ := hv
    have hcap : zs.length ≤ cap ∧ cap ≤ maxLen := by
      rcases hown.2 with ⟨h1, _⟩ | ⟨g', cap', cur, h1, _, _, h4, h5, _, _⟩
      · cases h1
      · injection h1 with _ _ e; subst e; exact ⟨h4, h5⟩
    obtain ⟨hcap, hcap2⟩ := hcap
    unfold maxLen at hcap2
    have Hk := Lib.hid hk
    have ei : ((i0 : Int) == -1) = false := beq_eq_false_iff_ne.2 (by omega)
    have hi063 : (i0 : Int) + 1 ≤ 9223372036854775807 := by omega
    have HP := Lib.hid (fun r W h1 h2 => kindPred_any r k kc W h1 h2)
    have hmk := zeroCells_one
    have hml := zeroCells_len
    have HZ1 := Lib.hid hmk
    have HZ2 := Lib.hid hml
    have Hlen : zs.length ≤ 1000 := hl
    clear hx hne heq hown hk hR hmk hml
    go_enter Tryd.func47, Tryd.ntmps47
    go_wp2_with (go_at_call 52; (with_reducible refine (HX.out).mono ?_); rintro e w1 ⟨rfl, h1⟩)
    have Hown1 := Lib.hid (own_below Hown.out h1)
    have HB1 := Lib.hid (h1.mono hbase)
    have hz1 := h1.size
    clear h1 HX Hown
    go_loopw [5, 6] (fun ii jj wr => ∃ (i j : Nat), j ≤ zs.length ∧ i < j ∧ ii = .int .i64 i ∧ jj = .int .i64 j ∧ Hid (∃ ml, DelSt zs ml k i j ∧ wr.ownsRow base 47 8 (.slice (some ⟨g, 0, none⟩) zs.length cap) zs.length (ml.flatMap repCells) ∧ Below base w wr)) (fun _ jj _ => zs.length - (vInt jj).toNat)
    case atStart => exact ⟨i0, i0 + 1, by omega, by omega, rfl, by go_num, Lib.hid ⟨zs, HS.out, Hown1.out, HB1.out⟩⟩
    case round =>
      obtain ⟨i, j, hj, hij, rfl, rfl, hT⟩ := hrel
      clear Hown1 HB1 HS
      obtain ⟨ml, hS, hown, hB⟩ := hT.out
      have hmlen := hS.len
      have hlen8 := repCells_len ml
      by_cases hlt : j < zs.length
      · have hjl : (j : Int) < (zs.length : Int) := by omega
        have hget := hS.get hlt
        have hrow := reps_own (l := ml) (by rw [hmlen]; exact hown)
        obtain ⟨b, off, e', hb, C⟩ := hrow.eight (k := j) (by omega)
        cases e'
        rw [hget, Nat.zero_add] at C
        obtain ⟨c0, c1, c2, c3, c4, c5, c6, c7⟩ := C
        have hkr : wr.cell? ⟨kc, 0, none⟩ = some (.int .u8 k) := (hB.cell (p := ⟨kc, 0, none⟩) hkc).trans Hk.out
        have hBz := hB.size
        have hb1 := (Below.refl wr.heap.size wr).alloc (Nat.le_refl _) (.cells #[.int .i64 zs[j].id, .int .i64 zs[j].src, .int .i64 zs[j].acc, .int .i64 zs[j].made, .int .i64 zs[j].about, .int .u8 zs[j].kind, .int .i64 zs[j].cents, .int .i64 zs[j].of_] 47)
        have hkcw : kc < wr.heap.size := by omega
        have HC := Lib.hid (HP.out zs[j] _ ((hb1.cell (p := ⟨kc, 0, none⟩) hkcw).trans hkr) (Nat.lt_of_lt_of_le hkcw hb1.size))
        have hb2 := hb1.alloc hb1.size (.cells #[.int .i64 zs[j].id, .int .i64 zs[j].src, .int .i64 zs[j].acc, .int .i64 zs[j].made, .int .i64 zs[j].about, .int .u8 zs[j].kind, .int .i64 zs[j].cents, .int .i64 zs[j].of_] 47)
        have HownV := Lib.hid (own_below hown hb2)
        have HBV := Lib.hid (hB.trans (hb2.mono (by omega)))
        have HS := Lib.hid hS
        have hg2 : g < wr.heap.size := hb
        by_cases he : zs[j].kind = k
        · have HN := Lib.hid (hS.keep hlt he)
          have hbool : (zs[j].kind != k) = false := by simp [he]
          have HCb := Lib.hid (hbool ▸ HC.out)
          have hi1 : i < ml.length := by omega
          have HG := Lib.hid (repCells_get ml i hi1)
          have HSt := Lib.hid (repCells_set ml i hi1 zs[j])
          obtain ⟨x, hx⟩ : ∃ x, ml[i] = x := ⟨_, rfl⟩
          rw [hx] at HG
          clear he hS hown hrow hbool HC hget hT hb1 hb2 hB hx
          generalize zs[j] = r at *
          go_upto_region 9 with (go_at_call 48; (with_reducible refine (HCb.out).mono ?_); rintro e w2 ⟨rfl, rfl⟩)
          have k1 := (Blk.new wr #[.int .i64 r.id, .int .i64 r.src, .int .i64 r.acc, .int .i64 r.made, .int .i64 r.about, .int .u8 r.kind, .int .i64 r.cents, .int .i64 r.of_] 47).alloc (.cells #[.int .i64 r.id, .int .i64 r.src, .int .i64 r.acc, .int .i64 r.made, .int .i64 r.about, .int .u8 r.kind, .int .i64 r.cents, .int .i64 r.of_] 47)
          have k1c := k1.cell
          generalize (wr.alloc (.cells #[.int .i64 r.id, .int .i64 r.src, .int .i64 r.acc, .int .i64 r.made, .int .i64 r.about, .int .u8 r.kind, .int .i64 r.cents, .int .i64 r.of_] 47)).alloc (.cells #[.int .i64 r.id, .int .i64 r.src, .int .i64 r.acc, .int .i64 r.made, .int .i64 r.about, .int .u8 r.kind, .int .i64 r.cents, .int .i64 r.of_] 47) = V at *
          have ownV := HownV.out
          have belV := HBV.out
          have hgb := hbg
          have HgV := Lib.hid (show wr.heap.size < V.heap.size from k1.lt)
          have a0 : V.cell? ⟨g, i * 8, none⟩ = some (.int .i64 x.id) := (ownV.cellAt (i * 8) (by omega)).trans (HG.out 0 (by omega))
          have fa0 := ownV.frozenAt (i * 8)
          have a1 : V.cell? ⟨g, i * 8 + 1, none⟩ = some (.int .i64 x.src) := (ownV.cellAt (i * 8 + 1) (by omega)).trans (HG.out 1 (by omega))
          have fa1 := ownV.frozenAt (i * 8 + 1)
          have a2 : V.cell? ⟨g, i * 8 + 2, none⟩ = some (.int .i64 x.acc) := (ownV.cellAt (i * 8 + 2) (by omega)).trans (HG.out 2 (by omega))
          have fa2 := ownV.frozenAt (i * 8 + 2)
          have a3 : V.cell? ⟨g, i * 8 + 3, none⟩ = some (.int .i64 x.made) := (ownV.cellAt (i * 8 + 3) (by omega)).trans (HG.out 3 (by omega))
          have fa3 := ownV.frozenAt (i * 8 + 3)
          have a4 : V.cell? ⟨g, i * 8 + 4, none⟩ = some (.int .i64 x.about) := (ownV.cellAt (i * 8 + 4) (by omega)).trans (HG.out 4 (by omega))
          have fa4 := ownV.frozenAt (i * 8 + 4)
          have a5 : V.cell? ⟨g, i * 8 + 5, none⟩ = some (.int .u8 x.kind) := (ownV.cellAt (i * 8 + 5) (by omega)).trans (HG.out 5 (by omega))
          have fa5 := ownV.frozenAt (i * 8 + 5)
          have a6 : V.cell? ⟨g, i * 8 + 6, none⟩ = some (.int .i64 x.cents) := (ownV.cellAt (i * 8 + 6) (by omega)).trans (HG.out 6 (by omega))
          have fa6 := ownV.frozenAt (i * 8 + 6)
          have a7 : V.cell? ⟨g, i * 8 + 7, none⟩ = some (.int .i64 x.of_) := (ownV.cellAt (i * 8 + 7) (by omega)).trans (HG.out 7 (by omega))
          have fa7 := ownV.frozenAt (i * 8 + 7)
          have hiz : (i : Int) < (zs.length : Int) := by omega
          have OwnV := Lib.hid ownV
          have BelV := Lib.hid belV
          clear c0 c1 c2 c3 c4 c5 c6 c7 ownV belV k1 HownV HBV
          go_wp2_with fail
          go_roundw
          case rel =>
            have ownV := OwnV.out
            have belV := BelV.out
            refine ⟨i + 1, j + 1, by omega, by omega, by go_num, by go_num, Lib.hid ⟨_, HN.out, ?_, ((((((((belV.setCell (by show base ≤ g; omega) _).setCell (by show base ≤ g; omega) _).setCell (by show base ≤ g; omega) _).setCell (by show base ≤ g; omega) _).setCell (by show base ≤ g; omega) _).setCell (by show base ≤ g; omega) _).setCell (by show base ≤ g; omega) _).setCell (by show base ≤ g; omega) _)⟩⟩
            have o := ((((((((ownV.stored (i * 8) (.int .i64 r.id)).1.stored (i * 8 + 1) (.int .i64 r.src)).1.stored (i * 8 + 2) (.int .i64 r.acc)).1.stored (i * 8 + 3) (.int .i64 r.made)).1.stored (i * 8 + 4) (.int .i64 r.about)).1.stored (i * 8 + 5) (.int .u8 r.kind)).1.stored (i * 8 + 6) (.int .i64 r.cents)).1.stored (i * 8 + 7) (.int .i64 r.of_)).1
            rw [← HSt.out] at o
            exact o
          case measure => simp [vInt]; omega
        · have HN := Lib.hid (hS.skip hlt he)
          have hbool : (zs[j].kind != k) = true := by simpa using he
          have HCb := Lib.hid (hbool ▸ HC.out)
          clear he hS hown hrow hbool HC hget hT hb1 hb2 hB
          generalize zs[j] = r at *
          go_wp2_with (go_at_call 48; (with_reducible refine (HCb.out).mono ?_); rintro e w2 ⟨rfl, rfl⟩)
          go_roundw
          case rel => exact ⟨i, j + 1, by omega, by omega, rfl, by go_num, Lib.hid ⟨_, HN.out, HownV.out, HBV.out⟩⟩
          case measure => simp [vInt]; omega
      · have hjl : ¬ (j : Int) < (zs.length : Int) := by omega
        have hend := hS.end_ (by omega)
        have hlen : i ≤ ml.length := by omega
        have hfl : (zs.filter (kindK k)).length = i := by rw [← hend, List.length_take]; omega
        have hjn : j = zs.length := by omega
        subst hjn
        have hlz := zeroCells_len (zs.length - i)
        have hcl : ∀ ty, (Builtin.clear_ #[22] ty #[.slice (some ⟨g, i * 8, none⟩) (zs.length - i) (cap - i)]).run Tryd.prog wr = .ok (.tuple #[]) (wr.setCells g (i * 8) (Builtin.zeroCells #[.int .i64 0, .int .i64 0, .int .i64 0, .int .i64 0, .int .i64 0, .int .u8 0, .int .i64 0, .int .i64 0] (zs.length - i)).toList) := fun ty =>
          clear_law wr _ 47 ty (.agg #[.int .i64 0, .int .i64 0, .int .i64 0, .int .i64 0, .int .i64 0, .int .u8 0, .int .i64 0, .int .i64 0]) Tryd.underlying22 repZero g (i * 8) _ _ (by omega) (zeroCells_one _)
            (fun t ht => by
              rw [show (Value.agg #[.int .i64 0, .int .i64 0, .int .i64 0, .int .i64 0, .int .i64 0, .int .u8 0, .int .i64 0, .int .i64 0]).cells = #[.int .i64 0, .int .i64 0, .int .i64 0, .int .i64 0, .int .i64 0, .int .u8 0, .int .i64 0, .int .i64 0] from rfl, hlz] at ht
              rw [hown.cellAt (i * 8 + t) (by omega), List.getElem?_eq_getElem (by omega)]; rfl)
            (fun t _ => hown.frozenAt (i * 8 + t))
        have HF : Hid (∀ W, Below base W (W.setCells g (i * 8) (Builtin.zeroCells #[.int .i64 0, .int .i64 0, .int .i64 0, .int .i64 0, .int .i64 0, .int .u8 0, .int .i64 0, .int .i64 0] (zs.length - i)).toList)) := Lib.hid (fun W => setCells_below hbg _ _ W)
        have HRf : Hid (Reps (wr.setCells g (i * 8) (Builtin.zeroCells #[.int .i64 0, .int .i64 0, .int .i64 0, .int .i64 0, .int .i64 0, .int .u8 0, .int .i64 0, .int .i64 0] (zs.length - i)).toList) wr.heap.size (some ⟨g, 0, none⟩) (zs.filter (kindK k))) := Lib.hid (fun q hq => by
          obtain ⟨b, off, e', hb, C⟩ := (reps_own (l := ml) (by rw [hmlen]; exact hown)) q (by omega)
          cases e'
          refine ⟨g, 0, rfl, hb, fun c hc => ?_⟩
          rw [World.cell?_setCells_out _ _ _ _ _ (fun _ _ => .inl (by show 0 + q * 8 + c < i * 8; omega)), C c hc]
          have hqe : ml[q]'(by omega) = (zs.filter (kindK k))[q] := by
            have h1 : (ml.take i)[q]'(by rw [List.length_take]; omega) = ml[q]'(by omega) := by rw [List.getElem_take]
            rw [← h1]
            simp only [hend]
          rw [hqe])
        have Hcl := Lib.hid hcl
        have HB := Lib.hid hB
        have Hfl := Lib.hid hfl
        have q1 : (i : Int) ≤ (zs.length : Int) := by omega
        have q2 : (zs.length : Int) ≤ (cap : Int) := by omega
        have q3 : ¬ cap = i := by omega
        have q4 : i ≤ cap := by omega
        have q5 : i ≤ zs.length := by omega
        have q6 : (i : Int) ≤ (cap : Int) := by omega
        have hclz := hcl
        clear hS hown hend hfl hB hT hmlen hlen8 hlz hcl
        go_wp2_with fail
        go_ret
        exact ⟨some ⟨g, 0, none⟩, ⟨cap, by rw [Hfl.out]; rfl⟩, HRf.out.more (HF.out wr).size, HB.out.trans (HF.out wr)⟩

end Go.Proofs.YtliijiflbfgfaaaDoor
