/- The law on compare, walked. -/
import Derived.Test.YtmnkcblopbjiaaaCmpP
import Derived.Test.YtmnkcblopbjiaaaTwinC
import Derived.Test.YtmnkcblopbjiaaaChecks
import Derived.Test.YtmnkcblopbjiaaaSym
namespace Go.Proofs.Ytmnkcblopbjiaaa
open Go.RowKit

/-- Two records in new memory, and all that was there is as it was. -/
def TwinsAt (V : World) (r s : Rec) (s7 s8 : Value) (W : World) : Prop := ∃ b7 b8 A1 c1 D1 d1 A2 c2 D2 d2, s7 = .pointer (some ⟨b7, 0, none⟩) ∧ s8 = .pointer (some ⟨b8, 0, none⟩) ∧ b7 < W.heap.size ∧ b8 < W.heap.size ∧
  (∀ i, i < 8 → W.cell? ⟨b7, i, none⟩ = (#[.int .i64 r.id, .slice A1 r.names.length c1, .int .u8 r.suf, .int .i64 r.lo, .int .i64 r.hi, .string r.num, .bool r.twin, .slice D1 r.stays.length d1] : Array Value)[i]?) ∧ (∀ i, i < 8 → W.cell? ⟨b8, i, none⟩ = (#[.int .i64 s.id, .slice A2 s.names.length c2, .int .u8 s.suf, .int .i64 s.lo, .int .i64 s.hi, .string s.num, .bool s.twin, .slice D2 s.stays.length d2] : Array Value)[i]?) ∧
  RecAt W W.heap.size A1 D1 r ∧ RecAt W W.heap.size A2 D2 s ∧ r.names.length ≤ c1 ∧ s.names.length ≤ c2 ∧ Below V.heap.size V W

theorem RecAt.lateS {V W : World} {A D : Option Addr} {r : Rec} {Q : Prop} (h : RecAt V V.heap.size A D r) (hS : Below V.heap.size V W ∧ Q) : RecAt W W.heap.size A D r := h.later hS.1
theorem below_call {B : Nat} {V X W : World} {Q : Prop} (hb : Below X.heap.size X W) (hz : B ≤ V.heap.size) (hS : Below B V X ∧ Q) : Below B V W := hS.1.trans (hb.mono (Nat.le_trans hz hS.1.size))

theorem greatOne_below (A D : Option Addr) (c d : Nat) (r : Rec) (w : World) (h : RecAt w w.heap.size A D r) :
    Calls Try.prog 5 #[.agg #[.int .i64 r.id, .slice A r.names.length c, .int .u8 r.suf, .int .i64 r.lo, .int .i64 r.hi, .string r.num, .bool r.twin, .slice D r.stays.length d]] w fun e w' => e = .returned (.bool (greatB r)) ∧ Below w.heap.size w w' :=
  (greatOne_any A D c d r w h).mono fun _ _ ⟨h1, h2⟩ => ⟨h1, h2 ▸ (Below.refl _ _).alloc (Nat.le_refl _) _⟩

/-- What eight stores into one block do. -/
theorem Blk.row8 {w : World} {g : Nat} {cs : Array Value} {t : TypeId} (h : Blk w g cs t) (hc : cs.size = 8) (v0 v1 v2 v3 v4 v5 v6 v7 : Value) : Blk ((((((((w.setCell ⟨g, 0, none⟩ v0).setCell ⟨g, 1, none⟩ v1).setCell ⟨g, 2, none⟩ v2).setCell ⟨g, 3, none⟩ v3).setCell ⟨g, 4, none⟩ v4).setCell ⟨g, 5, none⟩ v5).setCell ⟨g, 6, none⟩ v6).setCell ⟨g, 7, none⟩ v7) g #[v0, v1, v2, v3, v4, v5, v6, v7] t := by
  have hh := (((((((h.set 0 v0).set 1 v1).set 2 v2).set 3 v3).set 4 v4).set 5 v5).set 6 v6).set 7 v7
  have e : (((((((((cs.setIfInBounds 0 v0).setIfInBounds 1 v1).setIfInBounds 2 v2).setIfInBounds 3 v3).setIfInBounds 4 v4).setIfInBounds 5 v5).setIfInBounds 6 v6).setIfInBounds 7 v7) : Array Value) = #[v0, v1, v2, v3, v4, v5, v6, v7] := by
    rcases cs with ⟨l⟩
    rcases l with _ | ⟨a0, _ | ⟨a1, _ | ⟨a2, _ | ⟨a3, _ | ⟨a4, _ | ⟨a5, _ | ⟨a6, _ | ⟨a7, _ | ⟨a8, l⟩⟩⟩⟩⟩⟩⟩⟩⟩ <;> first | (simp at hc; done) | (simp at hc; omega) | simp
  rw [e] at hh
  exact hh
theorem Blk.far8 {w : World} {g b : Nat} {cs : Array Value} {t : TypeId} (h : Blk w b cs t) (hne : b ≠ g) (v0 v1 v2 v3 v4 v5 v6 v7 : Value) : Blk ((((((((w.setCell ⟨g, 0, none⟩ v0).setCell ⟨g, 1, none⟩ v1).setCell ⟨g, 2, none⟩ v2).setCell ⟨g, 3, none⟩ v3).setCell ⟨g, 4, none⟩ v4).setCell ⟨g, 5, none⟩ v5).setCell ⟨g, 6, none⟩ v6).setCell ⟨g, 7, none⟩ v7) b cs t :=
  (((((((h.far (p := ⟨g, 0, none⟩) hne v0).far (p := ⟨g, 1, none⟩) hne v1).far (p := ⟨g, 2, none⟩) hne v2).far (p := ⟨g, 3, none⟩) hne v3).far (p := ⟨g, 4, none⟩) hne v4).far (p := ⟨g, 5, none⟩) hne v5).far (p := ⟨g, 6, none⟩) hne v6).far (p := ⟨g, 7, none⟩) hne v7
theorem Blk.new' (w : World) (cs : Array Value) (t : TypeId) {g : Nat} (hg : g = w.heap.size) : Blk (w.alloc (.cells cs t)) g cs t := hg ▸ Blk.new w cs t
theorem Blk.newZ (w : World) (t : TypeId) {g : Nat} (hg : g = w.heap.size) : Blk (w.alloc (.cells #[.int .i64 0, .slice none 0 0, .int .u8 0, .int .i64 0, .int .i64 0, .string { data := #[] }, .bool false, .slice none 0 0] t)) g #[.int .i64 0, .slice none 0 0, .int .u8 0, .int .i64 0, .int .i64 0, .string ByteArray.empty, .bool false, .slice none 0 0] t := hg ▸ Blk.new w _ t
theorem heap_far (w : World) (p : Addr) (v : Value) {b : Nat} (hne : b ≠ p.block) : (w.setCell p v).heap[b]? = w.heap[b]? := by
  simp [World.setCell, Array.getElem?_modify]; intro e; exact absurd e.symm hne
theorem heap_far8 {w : World} {g b : Nat} (hne : b ≠ g) (v0 v1 v2 v3 v4 v5 v6 v7 : Value) : ((((((((w.setCell ⟨g, 0, none⟩ v0).setCell ⟨g, 1, none⟩ v1).setCell ⟨g, 2, none⟩ v2).setCell ⟨g, 3, none⟩ v3).setCell ⟨g, 4, none⟩ v4).setCell ⟨g, 5, none⟩ v5).setCell ⟨g, 6, none⟩ v6).setCell ⟨g, 7, none⟩ v7).heap[b]? = w.heap[b]? :=
  (heap_far _ ⟨g, 7, none⟩ v7 hne).trans ((heap_far _ ⟨g, 6, none⟩ v6 hne).trans ((heap_far _ ⟨g, 5, none⟩ v5 hne).trans ((heap_far _ ⟨g, 4, none⟩ v4 hne).trans ((heap_far _ ⟨g, 3, none⟩ v3 hne).trans ((heap_far _ ⟨g, 2, none⟩ v2 hne).trans ((heap_far _ ⟨g, 1, none⟩ v1 hne).trans (heap_far _ ⟨g, 0, none⟩ v0 hne)))))))
theorem setCell_size (w : World) (p : Addr) (v : Value) : (w.setCell p v).heap.size = w.heap.size := by
  simp [World.setCell]
theorem held_below {B : Nat} {V W : World} {Q : Prop} (h : Below B V W ∧ Q) : Below B V W := h.1

set_option maxRecDepth 100000 in
set_option maxHeartbeats 4000000 in
theorem matchCompares_any (u : Rul) (r s : Rec) (A A' D D' : Option Addr) (c c' d d' : Nat) (w : World) (hsr : 0 ≤ r.suf) (hss : 0 ≤ s.suf) (h : RecAt w w.heap.size A D r) (h' : RecAt w w.heap.size A' D' s) (hc : r.names.length ≤ c) (hc' : s.names.length ≤ c') :
    Calls Try.prog 4 #[.agg #[.int .i64 u.l, .int .i64 u.d, .int .i64 u.y, .int .i64 u.t], .agg #[.int .i64 r.id, .slice A r.names.length c, .int .u8 r.suf, .int .i64 r.lo, .int .i64 r.hi, .string r.num, .bool r.twin, .slice D r.stays.length d], .agg #[.int .i64 s.id, .slice A' s.names.length c', .int .u8 s.suf, .int .i64 s.lo, .int .i64 s.hi, .string s.num, .bool s.twin, .slice D' s.stays.length d']] w fun e w' => e = .returned (.bool true) ∧ Below w.heap.size w w' := by
  have b0 : Below w.heap.size w (((w.alloc (.cells #[.int .i64 u.l, .int .i64 u.d, .int .i64 u.y, .int .i64 u.t] 23)).alloc (.cells #[.int .i64 r.id, .slice A r.names.length c, .int .u8 r.suf, .int .i64 r.lo, .int .i64 r.hi, .string r.num, .bool r.twin, .slice D r.stays.length d] 29)).alloc (.cells #[.int .i64 s.id, .slice A' s.names.length c', .int .u8 s.suf, .int .i64 s.lo, .int .i64 s.hi, .string s.num, .bool s.twin, .slice D' s.stays.length d'] 29)) := (((Below.refl _ _).alloc (Nat.le_refl _) _).alloc (by simp) _).alloc (by simp; omega) _
  have k0 := ((Blk.new w #[.int .i64 u.l, .int .i64 u.d, .int .i64 u.y, .int .i64 u.t] 23).alloc (.cells #[.int .i64 r.id, .slice A r.names.length c, .int .u8 r.suf, .int .i64 r.lo, .int .i64 r.hi, .string r.num, .bool r.twin, .slice D r.stays.length d] 29)).alloc (.cells #[.int .i64 s.id, .slice A' s.names.length c', .int .u8 s.suf, .int .i64 s.lo, .int .i64 s.hi, .string s.num, .bool s.twin, .slice D' s.stays.length d'] 29)
  have k1 := (Blk.new (w.alloc (.cells #[.int .i64 u.l, .int .i64 u.d, .int .i64 u.y, .int .i64 u.t] 23)) #[.int .i64 r.id, .slice A r.names.length c, .int .u8 r.suf, .int .i64 r.lo, .int .i64 r.hi, .string r.num, .bool r.twin, .slice D r.stays.length d] 29).alloc (.cells #[.int .i64 s.id, .slice A' s.names.length c', .int .u8 s.suf, .int .i64 s.lo, .int .i64 s.hi, .string s.num, .bool s.twin, .slice D' s.stays.length d'] 29)
  have k2 := Blk.new ((w.alloc (.cells #[.int .i64 u.l, .int .i64 u.d, .int .i64 u.y, .int .i64 u.t] 23)).alloc (.cells #[.int .i64 r.id, .slice A r.names.length c, .int .u8 r.suf, .int .i64 r.lo, .int .i64 r.hi, .string r.num, .bool r.twin, .slice D r.stays.length d] 29)) #[.int .i64 s.id, .slice A' s.names.length c', .int .u8 s.suf, .int .i64 s.lo, .int .i64 s.hi, .string s.num, .bool s.twin, .slice D' s.stays.length d'] 29
  simp only [World.size_alloc] at k1 k2
  have Hr := h.later b0
  have Hs := h'.later b0
  have HA := Lib.hid (fun W hh => greatOne_below A D c d r W hh)
  have HB := Lib.hid (fun W hh => greatOne_below A' D' c' d' s W hh)
  cases hgr : greatB r with
  | true =>
    rw [hgr] at HA
    go_enter Try.func4, Try.ntmps4
    go_upto_region 1 with fail
    generalize ((w.alloc (.cells #[.int .i64 u.l, .int .i64 u.d, .int .i64 u.y, .int .i64 u.t] 23)).alloc (.cells #[.int .i64 r.id, .slice A r.names.length c, .int .u8 r.suf, .int .i64 r.lo, .int .i64 r.hi, .string r.num, .bool r.twin, .slice D r.stays.length d] 29)).alloc (.cells #[.int .i64 s.id, .slice A' s.names.length c', .int .u8 s.suf, .int .i64 s.lo, .int .i64 s.hi, .string s.num, .bool s.twin, .slice D' s.stays.length d'] 29) = W0 at *
    have c1 := k1.cell
    go_wp2_with (go_at_call 5; with_reducible refine (HA.out _ Hr).mono ?_; rintro e w1 ⟨rfl, e1⟩)
    go_ret
    exact ⟨rfl, b0.trans (e1.mono b0.size)⟩
  | false =>
    rw [hgr] at HA
    cases hgs : greatB s with
    | true =>
      rw [hgs] at HB
      go_enter Try.func4, Try.ntmps4
      go_upto_region 1 with fail
      generalize ((w.alloc (.cells #[.int .i64 u.l, .int .i64 u.d, .int .i64 u.y, .int .i64 u.t] 23)).alloc (.cells #[.int .i64 r.id, .slice A r.names.length c, .int .u8 r.suf, .int .i64 r.lo, .int .i64 r.hi, .string r.num, .bool r.twin, .slice D r.stays.length d] 29)).alloc (.cells #[.int .i64 s.id, .slice A' s.names.length c', .int .u8 s.suf, .int .i64 s.lo, .int .i64 s.hi, .string s.num, .bool s.twin, .slice D' s.stays.length d'] 29) = W0 at *
      have c1 := k1.cell
      go_wp2_with (first | (go_at_call 5; with_reducible refine (HA.out _ Hr).mono ?_; rintro e w1 ⟨rfl, e1⟩; have c2 := (k2.below e1 k2.lt).cell) | (go_at_call 5; with_reducible refine (HB.out _ (Hs.later e1)).mono ?_; rintro e w2 ⟨rfl, hb2⟩; have e2 : Below W0.heap.size W0 w2 := e1.trans (hb2.mono e1.size)))
      go_ret
      exact ⟨rfl, b0.trans (e2.mono b0.size)⟩
    | false =>
      rw [hgs] at HB
      go_enter Try.func4, Try.ntmps4
      go_upto_region 1 with fail
      generalize ((w.alloc (.cells #[.int .i64 u.l, .int .i64 u.d, .int .i64 u.y, .int .i64 u.t] 23)).alloc (.cells #[.int .i64 r.id, .slice A r.names.length c, .int .u8 r.suf, .int .i64 r.lo, .int .i64 r.hi, .string r.num, .bool r.twin, .slice D r.stays.length d] 29)).alloc (.cells #[.int .i64 s.id, .slice A' s.names.length c', .int .u8 s.suf, .int .i64 s.lo, .int .i64 s.hi, .string s.num, .bool s.twin, .slice D' s.stays.length d'] 29) = W0 at *
      have c1 := k1.cell
      go_upto_region 3 with (first | (go_at_call 5; with_reducible refine (HA.out _ Hr).mono ?_; rintro e w1 ⟨rfl, e1⟩; have c2 := (k2.below e1 k2.lt).cell) | (go_at_call 5; with_reducible refine (HB.out _ (Hs.later e1)).mono ?_; rintro e w2 ⟨rfl, hb2⟩; have e2 : Below W0.heap.size W0 w2 := e1.trans (hb2.mono e1.size)))
      have rV := Hr.later e2
      have sV := Hs.later e2
      have K0 := k0.below e2 k0.lt
      have K1 := k1.below e2 k1.lt
      have K2 := k2.below e2 k2.lt
      have hbV := b0.trans (e2.mono b0.size)
      have HT := Lib.hid (fun W hh => twin_in A D c d r W hh (by have := greatB_names hgr; omega) (by have := greatB_stays hgr; omega))
      have HU := Lib.hid (fun W hh => twin_in A' D' c' d' s W hh (by have := greatB_names hgs; omega) (by have := greatB_stays hgs; omega))
      clear c1 c2 e1 e2 hb2 k0 k1 k2 Hr Hs HA HB b0
      generalize w2 = V at *
      clear w1
      have L1 := K1.lt
      have L2 := K2.lt
      have k1 := K1.cell
      have k2 := K2.cell
      have dd0 : Below V.heap.size V V.drew := (Below.refl _ _).drew
      have hVV : V.heap.size ≤ V.heap.size := Nat.le_refl _
      have SK : ∀ W, Below V.heap.size V W → Below V.heap.size V W ∧ (∀ i, W.cell? ⟨w.heap.size + 1, i, none⟩ = (#[.int .i64 r.id, .slice A r.names.length c, .int .u8 r.suf, .int .i64 r.lo, .int .i64 r.hi, .string r.num, .bool r.twin, .slice D r.stays.length d] : Array Value)[i]?) ∧ (∀ i, W.cell? ⟨w.heap.size + 1 + 1, i, none⟩ = (#[.int .i64 s.id, .slice A' s.names.length c', .int .u8 s.suf, .int .i64 s.lo, .int .i64 s.hi, .string s.num, .bool s.twin, .slice D' s.stays.length d'] : Array Value)[i]?) := fun W hW => ⟨hW, (K1.below hW L1).cell, (K2.below hW L2).cell⟩
      go_cut [7, 8] (fun s7 s8 wx => TwinsAt V r s s7 s8 wx)
      case first =>
        go_region_held3 (fun W => Below V.heap.size V W ∧ (∀ i, W.cell? ⟨w.heap.size + 1, i, none⟩ = (#[.int .i64 r.id, .slice A r.names.length c, .int .u8 r.suf, .int .i64 r.lo, .int .i64 r.hi, .string r.num, .bool r.twin, .slice D r.stays.length d] : Array Value)[i]?) ∧ (∀ i, W.cell? ⟨w.heap.size + 1 + 1, i, none⟩ = (#[.int .i64 s.id, .slice A' s.names.length c', .int .u8 s.suf, .int .i64 s.lo, .int .i64 s.hi, .string s.num, .bool s.twin, .slice D' s.stays.length d'] : Array Value)[i]?)) ((refine SK _ ?_; repeat (first | with_reducible assumption | with_reducible exact Below.refl _ _ | with_reducible refine Below.drew ?_ | with_reducible refine Below.alloc ?_ (by first | omega | (simp; done) | (simp; omega)) _ | with_reducible refine Below.setCell ?_ (by first | omega | (simp; done) | (simp; omega)) _)))
          (first
            | (go_at_call 6; with_reducible refine (HT.out _ ?_).mono ?_; exact rV.lateS (by with_reducible assumption); rintro e w1 ⟨A1, c1, D1, d1, rfl, r1, hb1, hc1⟩; have d1b := below_call hb1 hVV (by with_reducible assumption); have hv1 := d1b.size; have hz1 := hb1.size; (try (simp at hz1)); (try (have P1 := ((Blk.new V #[.int .i64 0, .slice none 0 0, .int .u8 0, .int .i64 0, .int .i64 0, .string ByteArray.empty, .bool false, .slice none 0 0] 29).drew).below hb1 (by first | omega | (simp; done) | (simp; omega)))); (try (have P1 := (((Blk.new V #[.int .i64 0, .slice none 0 0, .int .u8 0, .int .i64 0, .int .i64 0, .string ByteArray.empty, .bool false, .slice none 0 0] 29).alloc (.cells #[.int .i64 0, .slice none 0 0, .int .u8 0, .int .i64 0, .int .i64 0, .string ByteArray.empty, .bool false, .slice none 0 0] 29)).drew).below hb1 (by first | omega | (simp; done) | (simp; omega)))); (try (have P2 := ((Blk.new (V.alloc (.cells #[.int .i64 0, .slice none 0 0, .int .u8 0, .int .i64 0, .int .i64 0, .string ByteArray.empty, .bool false, .slice none 0 0] 29)) #[.int .i64 0, .slice none 0 0, .int .u8 0, .int .i64 0, .int .i64 0, .string ByteArray.empty, .bool false, .slice none 0 0] 29).drew).below hb1 (by first | omega | (simp; done) | (simp; omega)); simp only [World.size_alloc] at P2)); (try (have P1c := P1.cell; have P1f := P1.free; have P1a := fun o => (P1.alloc o).cell; have P1b := fun o => (P1.alloc o).free; have P1n : V.heap.size ≠ w1.heap.size := (by have := P1.lt; omega); have P1m := Ne.symm P1n; have P1k : V.heap.size ≠ w1.heap.size + 1 := (by have := P1.lt; omega); have P1l := Ne.symm P1k)); (try (have P2c := P2.cell; have P2f := P2.free; have P2a := fun o => (P2.alloc o).cell; have P2b := fun o => (P2.alloc o).free; have P2n : V.heap.size + 1 ≠ w1.heap.size := (by have := P2.lt; omega); have P2m := Ne.symm P2n; have P2k : V.heap.size + 1 ≠ w1.heap.size + 1 := (by have := P2.lt; omega); have P2l := Ne.symm P2k)); have q1 := fun o => ((Blk.new w1 #[.int .i64 0, .slice none 0 0, .int .u8 0, .int .i64 0, .int .i64 0, .string ByteArray.empty, .bool false, .slice none 0 0] 29).alloc o).cell; have q2 := fun o => ((Blk.new w1 #[.int .i64 0, .slice none 0 0, .int .u8 0, .int .i64 0, .int .i64 0, .string ByteArray.empty, .bool false, .slice none 0 0] 29).alloc o).free)
            | (go_at_call 6; with_reducible refine (HU.out _ ?_).mono ?_; exact sV.lateS (by with_reducible assumption); rintro e w2 ⟨A2, c2, D2, d2, rfl, r2, hb2, hc2⟩; have d2b := below_call hb2 hVV (by with_reducible assumption); have hz2 := hb2.size; (try (simp at hz2)); have hv2 := d2b.size; (try (have R1 := P1.below hb2 (by first | omega | (simp; done) | (simp; omega)))); (try (have R1 := (P1.alloc (.cells #[.int .i64 0, .slice none 0 0, .int .u8 0, .int .i64 0, .int .i64 0, .string ByteArray.empty, .bool false, .slice none 0 0] 29)).below hb2 (by first | omega | (simp; done) | (simp; omega)))); (try (have R2 := P2.below hb2 (by first | omega | (simp; done) | (simp; omega)))); (try (have R2 := (P2.alloc (.cells #[.int .i64 0, .slice none 0 0, .int .u8 0, .int .i64 0, .int .i64 0, .string ByteArray.empty, .bool false, .slice none 0 0] 29)).below hb2 (by first | omega | (simp; done) | (simp; omega)))); (try (have R3 := (Blk.new w1 #[.int .i64 0, .slice none 0 0, .int .u8 0, .int .i64 0, .int .i64 0, .string ByteArray.empty, .bool false, .slice none 0 0] 29).below hb2 (by first | omega | (simp; done) | (simp; omega)))); (try (have R3 := ((Blk.new w1 #[.int .i64 0, .slice none 0 0, .int .u8 0, .int .i64 0, .int .i64 0, .string ByteArray.empty, .bool false, .slice none 0 0] 29).alloc (.cells #[.int .i64 0, .slice none 0 0, .int .u8 0, .int .i64 0, .int .i64 0, .string ByteArray.empty, .bool false, .slice none 0 0] 29)).below hb2 (by first | omega | (simp; done) | (simp; omega)))); (try (have R4 := (Blk.new (w1.alloc (.cells #[.int .i64 0, .slice none 0 0, .int .u8 0, .int .i64 0, .int .i64 0, .string ByteArray.empty, .bool false, .slice none 0 0] 29)) #[.int .i64 0, .slice none 0 0, .int .u8 0, .int .i64 0, .int .i64 0, .string ByteArray.empty, .bool false, .slice none 0 0] 29).below hb2 (by first | omega | (simp; done) | (simp; omega)); simp only [World.size_alloc] at R4)); (try (clear P1c P1f P1a P1b)); (try (clear P2c P2f P2a P2b)); clear q1 q2; (try (have R1c := R1.cell; have R1f := R1.free; have R1a := fun o => (R1.alloc o).cell; have R1b := fun o => (R1.alloc o).free; have R1n : V.heap.size ≠ w2.heap.size := (by have := R1.lt; omega); have R1m := Ne.symm R1n; have R1k : V.heap.size ≠ w2.heap.size + 1 := (by have := R1.lt; omega); have R1l := Ne.symm R1k)); (try (have R2c := R2.cell; have R2f := R2.free; have R2a := fun o => (R2.alloc o).cell; have R2b := fun o => (R2.alloc o).free; have R2n : V.heap.size + 1 ≠ w2.heap.size := (by have := R2.lt; omega); have R2m := Ne.symm R2n; have R2k : V.heap.size + 1 ≠ w2.heap.size + 1 := (by have := R2.lt; omega); have R2l := Ne.symm R2k)); (try (have R3c := R3.cell; have R3f := R3.free; have R3a := fun o => (R3.alloc o).cell; have R3b := fun o => (R3.alloc o).free; have R3n : w1.heap.size ≠ w2.heap.size := (by have := R3.lt; omega); have R3m := Ne.symm R3n; have R3k : w1.heap.size ≠ w2.heap.size + 1 := (by have := R3.lt; omega); have R3l := Ne.symm R3k)); (try (have R4c := R4.cell; have R4f := R4.free; have R4a := fun o => (R4.alloc o).cell; have R4b := fun o => (R4.alloc o).free; have R4n : w1.heap.size + 1 ≠ w2.heap.size := (by have := R4.lt; omega); have R4m := Ne.symm R4n; have R4k : w1.heap.size + 1 ≠ w2.heap.size + 1 := (by have := R4.lt; omega); have R4l := Ne.symm R4k)); have u1 := fun o => ((Blk.new w2 #[.int .i64 0, .slice none 0 0, .int .u8 0, .int .i64 0, .int .i64 0, .string ByteArray.empty, .bool false, .slice none 0 0] 29).alloc o).cell; have u2 := fun o => ((Blk.new w2 #[.int .i64 0, .slice none 0 0, .int .u8 0, .int .i64 0, .int .i64 0, .string ByteArray.empty, .bool false, .slice none 0 0] 29).alloc o).free))
        all_goals first | (go_step; go_step; go_meet) | (go_step; go_meet) | go_meet
        all_goals refine ⟨_, _, A1, c1, D1, d1, A2, c2, D2, d2, rfl, rfl, ?_, ?_, fun i _ => Blk.cell (t := 29) ?_ i, fun i _ => Blk.cell (t := 29) ?_ i, r1.at_ (fun b hlo hhi => ?_) ?_, r2.at_ (fun b hlo hhi => ?_) ?_, hc1, hc2, held_below (by with_reducible assumption)⟩
        all_goals try simp only [World.size_alloc, setCell_size]
        all_goals try simp only [World.size_alloc, World.size_drew] at hlo
        all_goals first | omega | ((repeat (first | with_reducible rfl | (with_reducible refine (heap_far8 (by omega) _ _ _ _ _ _ _ _).trans ?_) | (with_reducible refine (Go.heap_alloc_old _ _ (by (try simp only [World.size_alloc]); omega)).trans ?_) | (with_reducible refine (hb2.block _ (by (try simp only [World.size_alloc]); omega)).trans ?_))); done) | ((repeat (first | with_reducible assumption | (with_reducible refine Blk.new' _ _ _ ?_; first | with_reducible rfl | (simp only [World.size_alloc]; done)) | (with_reducible refine Blk.row8 (cs := #[.int .i64 0, .slice none 0 0, .int .u8 0, .int .i64 0, .int .i64 0, .string ByteArray.empty, .bool false, .slice none 0 0]) ?_ rfl _ _ _ _ _ _ _ _) | (with_reducible refine Blk.far8 ?_ (by omega) _ _ _ _ _ _ _ _) | (with_reducible refine Blk.newZ _ _ ?_; first | with_reducible rfl | (simp only [World.size_alloc, setCell_size]; done)) | with_reducible refine Blk.alloc ?_ _)); done)
      case rest =>
        obtain ⟨b7, b8, A1, c1, D1, d1, A2, c2, D2, d2, rfl, rfl, l7, l8, g7, g8, R1, R2, hc1, hc2, hbc⟩ := hcut
        have RA := rV.later hbc
        have RB := sV.later hbc
        have C7 : ∀ W, Below wc.heap.size wc W → ∀ i, i < 8 → W.cell? ⟨b7, i, none⟩ = (#[.int .i64 r.id, .slice A1 r.names.length c1, .int .u8 r.suf, .int .i64 r.lo, .int .i64 r.hi, .string r.num, .bool r.twin, .slice D1 r.stays.length d1] : Array Value)[i]? := fun W hW i hi => (hW.cell (p := ⟨b7, i, none⟩) l7).trans (g7 i hi)
        have C8 : ∀ W, Below wc.heap.size wc W → ∀ i, i < 8 → W.cell? ⟨b8, i, none⟩ = (#[.int .i64 s.id, .slice A2 s.names.length c2, .int .u8 s.suf, .int .i64 s.lo, .int .i64 s.hi, .string s.num, .bool s.twin, .slice D2 s.stays.length d2] : Array Value)[i]? := fun W hW i hi => (hW.cell (p := ⟨b8, i, none⟩) l8).trans (g8 i hi)
        have K0 := K0.below hbc K0.lt
        have K1 := K1.below hbc K1.lt
        have K2 := K2.below hbc K2.lt
        have hw := hbV.trans (hbc.mono hbV.size)
        have HC1 := Lib.hid (fun W ha hb => compare_any u r s A1 A2 D1 D2 c1 c2 d1 d2 W hsr hss ha hb hc1 hc2)
        have HC2 := Lib.hid (fun W ha hb => refCompare_any u r s A A' D D' c c' d d' W ha hb hc hc')
        have HC3 := Lib.hid (fun W ha hb => cmpM_comm u s r ▸ cmpE_comm u s r ▸ compare_any u s r A2 A1 D2 D1 c2 c1 d2 d1 W hss hsr ha hb hc2 hc1)
        have HS1 := Lib.hid (fun W ha hb => same_any A1 D1 A D c1 d1 c d r W ha hb)
        have HS2 := Lib.hid (fun W ha hb => same_any A2 D2 A' D' c2 d2 c' d' s W ha hb)
        generalize cmpM u r s = M at HC1 HC2 HC3
        generalize cmpE u r s = E at HC1 HC2 HC3
        clear rV sV HT HU L1 L2 k1 k2 dd0 hVV SK hbV hbc h h'
        have x0 := K0.cell
        have x1 := K1.cell
        have x2 := K2.cell
        go_wp2_with (first
          | (go_at_call 12; with_reducible refine (HC1.out _ R1 R2).mono ?_; rintro e w4 ⟨rfl, e4⟩; have E4 := e4.alloc e4.size (.cells #[.int .u8 M.names, .int .u8 M.num, .int .u8 M.born, .int .u8 M.place, .int .u8 M.one] 42); have x04 := (K0.below E4 K0.lt).cell; have x14 := (K1.below E4 K1.lt).cell; have x24 := (K2.below E4 K2.lt).cell; have x74 := C7 _ E4; have x84 := C8 _ E4; have B9 := Blk.new w4 #[.int .u8 M.names, .int .u8 M.num, .int .u8 M.born, .int .u8 M.place, .int .u8 M.one] 42)
          | (go_at_call 13; with_reducible refine (HC2.out _ (RA.later E4) (RB.later E4)).mono ?_; rintro e w5 ⟨rfl, h5⟩; have e5 := E4.trans (h5.mono E4.size); have E5 := e5.alloc e5.size (.cells #[.int .u8 M.names, .int .u8 M.num, .int .u8 M.born, .int .u8 M.place, .int .u8 M.one] 42); have x05 := (K0.below E5 K0.lt).cell; have x15 := (K1.below E5 K1.lt).cell; have x25 := (K2.below E5 K2.lt).cell; have x75 := C7 _ E5; have x85 := C8 _ E5; have B9b := (B9.below h5 B9.lt).alloc (.cells #[.int .u8 M.names, .int .u8 M.num, .int .u8 M.born, .int .u8 M.place, .int .u8 M.one] 42); have B11 := Blk.new w5 #[.int .u8 M.names, .int .u8 M.num, .int .u8 M.born, .int .u8 M.place, .int .u8 M.one] 42)
          | (go_at_call 12; with_reducible refine (HC3.out _ (R2.later E5) (R1.later E5)).mono ?_; rintro e w6 ⟨rfl, h6⟩; have e6 := E5.trans (h6.mono E5.size); have E6 := e6.alloc e6.size (.cells #[.int .u8 M.names, .int .u8 M.num, .int .u8 M.born, .int .u8 M.place, .int .u8 M.one] 42); have x06 := (K0.below E6 K0.lt).cell; have x16 := (K1.below E6 K1.lt).cell; have x26 := (K2.below E6 K2.lt).cell; have x76 := C7 _ E6; have x86 := C8 _ E6; have y9 := ((B9b.below h6 B9b.lt).alloc (.cells #[.int .u8 M.names, .int .u8 M.num, .int .u8 M.born, .int .u8 M.place, .int .u8 M.one] 42)).cell; have y11 := ((B11.below h6 B11.lt).alloc (.cells #[.int .u8 M.names, .int .u8 M.num, .int .u8 M.born, .int .u8 M.place, .int .u8 M.one] 42)).cell; have y13 := (Blk.new w6 #[.int .u8 M.names, .int .u8 M.num, .int .u8 M.born, .int .u8 M.place, .int .u8 M.one] 42).cell)
          | (go_at_call 11; with_reducible refine (HS1.out _ (R1.later E6) (RA.later E6)).mono ?_; rintro e w7 ⟨rfl, h7⟩; have e7 := E6.trans (h7.mono E6.size); have x07 := (K0.below e7 K0.lt).cell; have x17 := (K1.below e7 K1.lt).cell; have x27 := (K2.below e7 K2.lt).cell; have x77 := C7 _ e7; have x87 := C8 _ e7)
          | (go_at_call 11; with_reducible refine (HS2.out _ (R2.later e7) (RB.later e7)).mono ?_; rintro e w8 ⟨rfl, h8⟩; have e8 := e7.trans (h8.mono e7.size)))
        go_ret
        exact ⟨rfl, hw.trans (e8.mono hw.size)⟩

end Go.Proofs.Ytmnkcblopbjiaaa
