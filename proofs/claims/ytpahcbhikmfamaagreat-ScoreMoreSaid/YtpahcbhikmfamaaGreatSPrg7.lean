/- The share of a card, by the program. Written by a program. -/
import Derived.Test.YtpahcbhikmfamaaGreatSPrg6

namespace Go.Proofs.YtpahcbhikmfamaaGreat
open Go.RowKit Go.Maps

theorem partInfo : (Tryz.prog.info? 102).map (fun i => (i.zero, i.size, i.bytes)) = some (some .nilIface, 1, 16) := by kernel_rfl
def cardParts (l : List SclD) : List PartD := (List.range l.length).map fun k => .scl (l.getD k default) k
def cardUp (l : List SclD) (i : Nat) : List PartD := (List.range i).map fun k => .scl (l.getD k default) k
theorem cardUp_succ {l : List SclD} {i : Nat} (h : i < l.length) : (cardUp l (i + 1)).flatMap partC = (cardUp l i).flatMap partC ++ partC (.scl l[i] i) := by
  unfold cardUp
  rw [List.range_succ, List.map_append, List.flatMap_append, List.map_singleton, getD_lt l default h]
  simp
theorem own_far {w : World} {base : Nat} {e : TypeId} {size n : Nat} {v : Value} {xs : List Value} (h : w.ownsRow base e size v n xs) {p : Addr} (hp : p.block < base) (u : Value) : (w.setCell p u).ownsRow base e size v n xs := by
  refine ⟨h.1, ?_⟩
  rcases h.2 with h0 | ⟨g, cap, cur, h1, h2, h3, h4⟩
  · exact .inl h0
  · exact .inr ⟨g, cap, cur, h1, h2, (Below.heap_setCell _ _ _ _ (by omega)).trans h3, h4⟩
theorem sh_put {w : World} {g : Nat} {a0 a1 a2 c0 c1 c2 : Value} {t : TypeId} (h : Blk w g #[a0, a1, a2] t) : Blk (((w.setCell ⟨g, 0, none⟩ c0).setCell ⟨g, 1, none⟩ c1).setCell ⟨g, 2, none⟩ c2) g #[c0, c1, c2] t := by
  have := ((h.set 0 c0).set 1 c1).set 2 c2
  simpa using this
theorem part_new (W : World) (q : PartD) (v : Value) (t : TypeId) (hv : partC q = [v]) : ∀ j u, (partC q)[j]? = some u → (W.alloc (.cells #[v] t)).cell? ((⟨W.heap.size, 0, none⟩ : Addr).add j) = some u := fun j u hj => by
  have := (Blk.new W #[v] t).cell j
  rw [show ((⟨W.heap.size, 0, none⟩ : Addr).add j) = ⟨W.heap.size, j, none⟩ by rw [Addr.add]; simp; exact fun h => h.symm]
  refine this.trans ?_
  rw [← hj, hv]; simp

set_option maxRecDepth 100000 in
set_option maxHeartbeats 8000000 in
theorem shareOf_all (wt base : Int) (l : List SclD) (S : Option Addr) (s : Nat) (w : World) (h : SclsAt w w.heap.size S l) (hl : l.length ≤ 10) :
    Calls Tryz.prog 33 #[.agg #[.int .i64 wt, .int .i64 base, .slice S l.length s]] w fun e w' => ∃ P p, e = .returned (.agg #[.int .i64 wt, .int .i64 base, .slice P l.length p]) ∧ w'.ownsRow w.heap.size 102 1 (.slice P l.length p) l.length ((cardParts l).flatMap partC) ∧ Below w.heap.size w w' := by
  obtain ⟨i0, hi0, hz0, hz1, hz2⟩ := info_parts partInfo
  have b1 := (Below.refl w.heap.size w).alloc (Nat.le_refl _) (.cells #[.int .i64 wt, .int .i64 base, .slice S l.length s] 37)
  have k1 := Blk.new w #[.int .i64 wt, .int .i64 base, .slice S l.length s] 37
  have g1 := k1.lt
  have k1c := k1.cell
  have b1s := b1.size
  have h1 := h.later b1
  have H1 := Lib.hid h1
  clear h h1
  go_enter Tryz.func33, Tryz.ntmps33
  go_wp2_with fail
  generalize hW2 : (w.alloc (.cells #[.int .i64 wt, .int .i64 base, .slice S l.length s] 37)).alloc (.cells #[.int .i64 0, .int .i64 0, .slice none 0 0] 83) = W2 at *
  have hs2 : W2.heap.size = w.heap.size + 1 + 1 := by rw [← hW2]; simp
  have b2 : Below w.heap.size w W2 := by rw [← hW2]; exact b1.alloc b1s _
  have H2 := Lib.hid (fun (u : Unit) => show SclsAt W2 W2.heap.size S l by rw [← hW2]; exact H1.out.later ((Below.refl _ _).alloc (Nat.le_refl _) _))
  have kc2 : Blk W2 w.heap.size #[.int .i64 wt, .int .i64 base, .slice S l.length s] 37 := by rw [← hW2]; exact k1.alloc _
  have kr2 : Blk W2 (w.heap.size + 1) #[.int .i64 0, .int .i64 0, .slice none 0 0] 83 := by rw [← hW2]; exact newAt' _ _ _ (by simp)
  have ks2 := newAt' W2 #[.int .i64 wt, .int .i64 base, .slice none 0 0] 83 (g := w.heap.size + 1 + 1) hs2.symm
  have b3 := (Below.refl W2.heap.size W2).alloc (Nat.le_refl _) (.cells #[.int .i64 wt, .int .i64 base, .slice none 0 0] 83)
  have hs3 : (W2.alloc (.cells #[.int .i64 wt, .int .i64 base, .slice none 0 0] 83)).heap.size = W2.heap.size + 1 := by simp
  have b2s := b2.size
  clear hW2 k1c b1 k1 g1 b1s H1
  generalize W2.alloc (.cells #[.int .i64 wt, .int .i64 base, .slice none 0 0] 83) = W3 at *
  go_loopw [14] (fun ii wr => ∃ (i : Nat) (A2 : Option Addr) (c2 : Nat), i ≤ l.length ∧ ii = .int .i64 i ∧ Hid (Blk wr (w.heap.size + 1 + 1) #[.int .i64 wt, .int .i64 base, .slice A2 i c2] 83) ∧ Hid (wr.ownsRow W3.heap.size 102 1 (.slice A2 i c2) i ((cardUp l i).flatMap partC) ∧ Below W2.heap.size W2 wr ∧ W3.heap.size ≤ wr.heap.size)) (fun ii _ => l.length - (vInt ii).toNat)
  case atStart => exact ⟨0, none, 0, Nat.zero_le _, rfl, Lib.hid ks2, Lib.hid ⟨World.ownsRow_nil _ _ _ _, b3, Nat.le_refl _⟩⟩
  case round =>
    obtain ⟨i, A2, c2, hi, rfl, HK, hR⟩ := hrel
    have kr := HK.out
    obtain ⟨hO, hB, hS⟩ := hR.out
    by_cases hlt : i < l.length
    · have hil : (i : Int) < (l.length : Int) := by omega
      have h2 := (H2.out ()).later hB
      obtain ⟨b, off, rfl, hb, c0, c1, c2'⟩ := scls_at h2.row hlt
      have ba := (Below.refl wr.heap.size wr).alloc (Nat.le_refl _) (.cells #[.slice l[i].A l[i].v.cuts.length l[i].a, .slice l[i].B l[i].v.pts.length l[i].b, .int .i64 l[i].v.non] 42)
      have HT1 := Lib.hid (cardUp_succ hlt)
      have HO := Lib.hid (hO.alloc (.cells #[.slice l[i].A l[i].v.cuts.length l[i].a, .slice l[i].B l[i].v.pts.length l[i].b, .int .i64 l[i].v.non] 42))
      have kn := Blk.new wr #[.slice l[i].A l[i].v.cuts.length l[i].a, .slice l[i].B l[i].v.pts.length l[i].b, .int .i64 l[i].v.non] 42
      have ks := kr.alloc (.cells #[.slice l[i].A l[i].v.cuts.length l[i].a, .slice l[i].B l[i].v.pts.length l[i].b, .int .i64 l[i].v.non] 42)
      have bas := ba.size
      have hBs := hB.size
      have HB3 := Lib.hid (hB.alloc hBs (.cells #[.slice l[i].A l[i].v.cuts.length l[i].a, .slice l[i].B l[i].v.pts.length l[i].b, .int .i64 l[i].v.non] 42))
      clear hR hO h2 HK kr
      generalize l[i] = y at *
      go_upto_region 5 with fail
      generalize hW4 : wr.alloc (.cells #[.slice y.A y.v.cuts.length y.a, .slice y.B y.v.pts.length y.b, .int .i64 y.v.non] 42) = W4 at *
      clear hW4 c0 c1 c2' ba
      have hownA := HO.out.alloc (.cells #[.iface 104 (.agg #[.slice y.A y.v.cuts.length y.a, .slice y.B y.v.pts.length y.b, .int .i64 y.v.non, .int .i64 i])] 102)
      have ka := ks.alloc (.cells #[.iface 104 (.agg #[.slice y.A y.v.cuts.length y.a, .slice y.B y.v.pts.length y.b, .int .i64 y.v.non, .int .i64 i])] 102)
      have HBa := Lib.hid (HB3.out.alloc (by omega) (.cells #[.iface 104 (.agg #[.slice y.A y.v.cuts.length y.a, .slice y.B y.v.pts.length y.b, .int .i64 y.v.non, .int .i64 i])] 102))
      have kac := ka.cell
      have ksc := ks.cell
      have knc := kn.cell
      go_wp2_with (at_builtin; refine wpList_append_own_at _ rfl _ _ 81 rfl W3.heap.size 102 i0 _ 1 16 Tryz.underlying81 hi0 hz0 hz1 hz2 rfl (by decide) _ _ _ rfl hownA ⟨W4.heap.size, 0, none⟩ 1 1 (partC (.scl y i)) rfl rfl (part_new W4 (.scl y i) _ _ rfl) (partC_one _) (by unfold maxLen; omega) (by omega) (by simp; omega) ?_; intro v' w6 hown6 hg6 _ _; obtain ⟨A3, c3, rfl⟩ := own_slice hown6; have k6 := ka.grown hg6 (fun e => by have := (hownA.lt _ e.symm).1; omega); have k6c := k6.cell; have z6 := k6.free 2)
      go_roundw
      case rel => exact ⟨i + 1, A3, c3, by omega, by go_num, Lib.hid (by have := k6.set 2 (.slice A3 (i + 1) c3); simpa using this), Lib.hid ⟨by rw [HT1.out]; exact own_far hown6 (p := ⟨w.heap.size + 1 + 1, 2, none⟩) (by simp; omega) _, ((HBa.out.grown hg6 (by simp; omega) (fun k e => by have := (hownA.lt k e).1; omega)).setCell (p := ⟨w.heap.size + 1 + 1, 2, none⟩) (by simp; omega) _), by have := hg6.size; simp at this; simp; omega⟩⟩
      case measure => simp [vInt]; omega
    · have hil : ¬ (i : Int) < (l.length : Int) := by omega
      obtain rfl : i = l.length := by omega
      have ksc := kr.cell
      have HO3 := Lib.hid hO
      have HB3 := Lib.hid (b2.trans (hB.mono b2s))
      have krr := kr2.below hB (by omega)
      have krf := krr.free
      have krc := krr.cell
      have z0 := krf 0
      have z1 := krf 1
      have z2 := krf 2
      clear hR hO hB
      go_wp2_with fail
      have hrc := (sh_put (c0 := .int .i64 wt) (c1 := .int .i64 base) (c2 := .slice A2 l.length c2) krr).cell
      refine bodyPost_ret (v := .agg #[.int .i64 wt, .int .i64 base, .slice A2 l.length c2]) (by simp [results, Tryz.results33, go_sem, hrc]) rfl ⟨A2, c2, rfl, ?_, (((HB3.out.setCell (p := ⟨w.heap.size + 1, 0, none⟩) (by simp) _).setCell (p := ⟨w.heap.size + 1, 1, none⟩) (by simp) _).setCell (p := ⟨w.heap.size + 1, 2, none⟩) (by simp) _)⟩
      exact own_base (own_far (own_far (own_far HO3.out (p := ⟨w.heap.size + 1, 0, none⟩) (by simp; omega) _) (p := ⟨w.heap.size + 1, 1, none⟩) (by simp; omega) _) (p := ⟨w.heap.size + 1, 2, none⟩) (by simp; omega) _) (by omega)
end Go.Proofs.YtpahcbhikmfamaaGreat
