/- The reports of a kind, by the day on which they were made; the report that another one names. -/
import Derived.Test.YtliijiflbfgfaaaDoorAStore
import Derived.BigRegion

namespace Go.Proofs.YtliijiflbfgfaaaDoor
open Go.RowKit Go.Maps

set_option maxRecDepth 100000 in
set_option maxHeartbeats 1000000 in
theorem ofKind_any (m nn : Nat) (K : List Rep) (k : Int) (w : World) (hM : MapFn w Tryd.prog 3 m nn (repG K)) (hK : (K.map Rep.id).Nodup) (hl : K.length ≤ 1000) :
    Calls Tryd.prog 39 #[storeV m, .int .u8 k] w fun e w' => ∃ A' c', ∃ cs : List Rep, e = .returned (.slice A' cs.length c') ∧ cs.Perm (K.filter (kindK k)) ∧ cs.Pairwise leM ∧ Reps w' w'.heap.size A' cs ∧ Below w.heap.size w w' := by
  have b1 := (Below.refl w.heap.size w).alloc (Nat.le_refl _) (.cells #[.map (some m)] 38)
  have b2 := b1.alloc b1.size (.cells #[.int .u8 k] 5)
  have b3 := b2.alloc b2.size (.cells #[.map (some m)] 36)
  have b4 := b3.alloc b3.size (.cells #[.func (.func 46) #[] #[], .func (.func 34) #[] #[]] 64)
  have k1 := Blk.new (w.alloc (.cells #[.map (some m)] 38)) #[.int .u8 k] 5
  have k2 := Blk.new ((w.alloc (.cells #[.map (some m)] 38)).alloc (.cells #[.int .u8 k] 5)) #[.map (some m)] 36
  have k3 := Blk.new (((w.alloc (.cells #[.map (some m)] 38)).alloc (.cells #[.int .u8 k] 5)).alloc (.cells #[.map (some m)] 36)) #[.func (.func 46) #[] #[], .func (.func 34) #[] #[]] 64
  simp only [World.size_alloc] at k1 k2 k3
  have k1' := (k1.alloc (.cells #[.map (some m)] 36)).alloc (.cells #[.func (.func 46) #[] #[], .func (.func 34) #[] #[]] 64)
  have k2' := k2.alloc (.cells #[.func (.func 46) #[] #[], .func (.func 34) #[] #[]] 64)
  have HV := Lib.hid (fun W => valuesM_any m W)
  have HB := Lib.hid (byM_any (w.heap.size + 1 + 1) m nn K hl hK (w.heap.size + 1 + 1 + 1) _ k2'.lt (k2'.cell 0) (hM.below b4 hM.lt) k3.lt (k3.cell 0) (k3.cell 1))
  have HD := Lib.hid (fun zs A cap base W h1 h2 h3 h4 h5 => deleteFunc_any zs A cap base k (w.heap.size + 1) W h1 h2 h3 h4 h5)
  have Hk1 := Lib.hid (k1'.cell 0)
  have Hk1l := Lib.hid k1'.lt
  have Hb4 := Lib.hid b4
  clear b1 b2 b3 b4 k1 k2 k3 k1' k2' hM
  go_enter Tryd.func39, Tryd.ntmps39
  go_wp2_with (first
    | (go_at_call 45; (with_reducible refine (HV.out _).mono ?_); rintro e w1 ⟨rfl, rfl⟩)
    | (go_at_call 32; (with_reducible refine (HB.out).mono ?_); rintro e w2 ⟨A', c', l', rfl, hp, hs, hown, hb5⟩; have hl5 : l'.length ≤ 1000 := Nat.le_trans (Nat.le_of_eq hp.length_eq) hl; have HD2 := Lib.hid (HD.out l' A' c' _ w2 hown hb5.size ((hb5.cell (p := ⟨w.heap.size + 1, 0, none⟩) Hk1l.out).trans Hk1.out) Hk1l.out hl5); have Hb5 := Lib.hid hb5; have Hp := Lib.hid hp; have Hs := Lib.hid hs; clear hb5 hp hs hown)
    | (go_at_call 47; (with_reducible refine (HD2.out).mono ?_); rintro e w3 ⟨A2, c2, rfl, hR, hb6⟩))
  go_ret
  exact ⟨A2, c2, l'.filter (kindK k), rfl, Hp.out.filter _, Hs.out.filter _, hR, Hb4.out.trans ((Hb5.out.trans hb6).mono Hb4.out.size)⟩

end Go.Proofs.YtliijiflbfgfaaaDoor
