/- The last day of a fact, by the program. -/
import Derived.Test.YtkpaikampmeooaaGreatDoorTCardP5

namespace Go.Proofs.YtkpaikampmeooaaGreatDoor
open Go.RowKit Go.Maps

set_option maxHeartbeats 1000000 in
theorem start1_any (r : Rep) (w : World) :
    Calls Tryz.prog 58 #[.agg #[.int .i64 r.id, .int .i64 r.src, .int .i64 r.acc, .int .i64 r.made, .int .i64 r.about, .int .u8 r.kind, .int .i64 r.cents, .int .i64 r.of_]] w fun e w' => e = .returned (.int .i64 r.about) ∧ Below w.heap.size w w' := by
  have hb : Below w.heap.size w (w.alloc (.cells #[.int .i64 r.id, .int .i64 r.src, .int .i64 r.acc, .int .i64 r.made, .int .i64 r.about, .int .u8 r.kind, .int .i64 r.cents, .int .i64 r.of_] 56)) := (Below.refl _ _).alloc (Nat.le_refl _) _
  go_enter Tryz.func58, Tryz.ntmps58
  go_wp2_with fail
  go_ret
  exact ⟨rfl, hb⟩
set_option maxHeartbeats 1000000 in
theorem start2_any (r : Rep) (w : World) :
    Calls Tryz.prog 59 #[.agg #[.int .i64 r.id, .int .i64 r.src, .int .i64 r.acc, .int .i64 r.made, .int .i64 r.about, .int .u8 r.kind, .int .i64 r.cents, .int .i64 r.of_]] w fun e w' => e = .returned (.int .i64 r.made) ∧ Below w.heap.size w w' := by
  have hb : Below w.heap.size w (w.alloc (.cells #[.int .i64 r.id, .int .i64 r.src, .int .i64 r.acc, .int .i64 r.made, .int .i64 r.about, .int .u8 r.kind, .int .i64 r.cents, .int .i64 r.of_] 56)) := (Below.refl _ _).alloc (Nat.le_refl _) _
  go_enter Tryz.func59, Tryz.ntmps59
  go_wp2_with fail
  go_ret
  exact ⟨rfl, hb⟩
set_option maxRecDepth 100000 in
set_option maxHeartbeats 1000000 in
theorem start3_any (r : Rep) (q : Nat) (F : Option Addr) (cf : Nat) (facts : List Rep) (w : World) (hq : q < w.heap.size ∧ w.cell? ⟨q, 0, none⟩ = some (.slice F facts.length cf)) (hF : Reps w w.heap.size F facts) (hl : facts.length ≤ 1000) :
    Calls Tryz.prog 60 #[.agg #[.int .i64 r.id, .int .i64 r.src, .int .i64 r.acc, .int .i64 r.made, .int .i64 r.about, .int .u8 r.kind, .int .i64 r.cents, .int .i64 r.of_], .pointer (some ⟨q, 0, none⟩)] w fun e w' => e = .returned (.int .i64 (leastL (closingsL facts r.acc))) ∧ Below w.heap.size w w' := by
  have hb : Below w.heap.size w (w.alloc (.cells #[.int .i64 r.id, .int .i64 r.src, .int .i64 r.acc, .int .i64 r.made, .int .i64 r.about, .int .u8 r.kind, .int .i64 r.cents, .int .i64 r.of_] 56)) := (Below.refl _ _).alloc (Nat.le_refl _) _
  have hC := Lib.hid (closings_any facts F cf r.acc _ (hF.later hb) hl)
  have hql := hq.1
  have hqc := (hb.cell (p := ⟨q, 0, none⟩) hq.1).trans hq.2
  have HL := Lib.hid (fun A c W hh => least_any (closingsL facts r.acc) A c W hh (Nat.le_trans (closingsL_len _ _) hl))
  have k1 := Blk.new w #[.int .i64 r.id, .int .i64 r.src, .int .i64 r.acc, .int .i64 r.made, .int .i64 r.about, .int .u8 r.kind, .int .i64 r.cents, .int .i64 r.of_] 56
  clear hq hF
  generalize closingsL facts r.acc = K at *
  go_enter Tryz.func60, Tryz.ntmps60
  go_upto_region 1 with fail
  generalize hW1 : w.alloc (.cells #[.int .i64 r.id, .int .i64 r.src, .int .i64 r.acc, .int .i64 r.made, .int .i64 r.about, .int .u8 r.kind, .int .i64 r.cents, .int .i64 r.of_] 56) = W1 at *
  clear hW1
  have k1c := k1.cell
  go_wp2_with (first
    | (go_at_call 61; (with_reducible refine (hC.out).mono ?_); rintro e w2 ⟨A2, c2, rfl, hF2, h2⟩)
    | (go_at_call 37; (with_reducible refine (HL.out A2 c2 _ hF2).mono ?_); rintro e w3 ⟨rfl, rfl⟩))
  go_ret
  exact ⟨rfl, hb.trans (h2.mono hb.size)⟩

theorem leastOne_any (x : Int) (t : TypeId) (W : World) :
    Calls Tryz.prog 37 #[.slice (some ⟨W.heap.size, 0, none⟩) 1 1] (W.alloc (.cells #[.int .i64 x] t)) fun e w' => e = .returned (.int .i64 (leastL [x])) ∧ W.alloc (.cells #[.int .i64 x] t) = w' :=
  least_any [x] (some ⟨W.heap.size, 0, none⟩) 1 _ (fun k hk => by
    obtain rfl : k = 0 := by simp at hk; exact hk
    refine ⟨W.heap.size, 0, rfl, by simp, fun i hi => ?_⟩
    obtain rfl : i = 0 := by omega
    exact (Blk.new W #[.int .i64 x] t).cell 0) (by simp)

/-- What a bureau holds, as a value. -/
abbrev burC (X0 X1 X2 X3 : Value) (m p q : Nat) : Array Value := #[X0, X1, X2, X3, .map (some m), landFn p, .nilFunc, .func (.func 58) #[] #[], .func (.func 59) #[] #[], .func (.func 60) #[] #[.pointer (some ⟨q, 0, none⟩)]]

set_option maxRecDepth 100000 in
set_option maxHeartbeats 8000000 in
theorem lastP_any (X0 X1 X2 X3 : Value) (m n p q : Nat) (F : Option Addr) (cf : Nat) (laws : List LawT) (homes : List HomeT) (facts : List Rep) (r : Rep) (w : World) (h : BurM w m n p q F cf laws homes facts) (hv : lawsB laws = true) (hvh : homesB homes = true) (hF : FactsOk facts) (hr : r ∈ facts) :
    Calls Tryz.prog 18 #[.agg #[X0, X1, X2, X3, .map (some m), landFn p, .nilFunc, .func (.func 58) #[] #[], .func (.func 59) #[] #[], .func (.func 60) #[] #[.pointer (some ⟨q, 0, none⟩)]], .agg #[.int .i64 r.id, .int .i64 r.src, .int .i64 r.acc, .int .i64 r.made, .int .i64 r.about, .int .u8 r.kind, .int .i64 r.cents, .int .i64 r.of_]] w fun e w' => e = .returned (.tuple #[.int .i64 ((lastV laws homes facts r).getD 0), .bool (lastV laws homes facts r).isSome]) ∧ Below w.heap.size w w' := by
  have b1 := ((Below.refl w.heap.size w).alloc (Nat.le_refl _) (.cells #[X0, X1, X2, X3, .map (some m), landFn p, .nilFunc, .func (.func 58) #[] #[], .func (.func 59) #[] #[], .func (.func 60) #[] #[.pointer (some ⟨q, 0, none⟩)]] 51)).alloc (by simp) (.cells #[.int .i64 r.id, .int .i64 r.src, .int .i64 r.acc, .int .i64 r.made, .int .i64 r.about, .int .u8 r.kind, .int .i64 r.cents, .int .i64 r.of_] 56)
  have kb := (Blk.new w #[X0, X1, X2, X3, .map (some m), landFn p, .nilFunc, .func (.func 58) #[] #[], .func (.func 59) #[] #[], .func (.func 60) #[] #[.pointer (some ⟨q, 0, none⟩)]] 51).alloc (.cells #[.int .i64 r.id, .int .i64 r.src, .int .i64 r.acc, .int .i64 r.made, .int .i64 r.about, .int .u8 r.kind, .int .i64 r.cents, .int .i64 r.of_] 56)
  have kr := Blk.new (w.alloc (.cells #[X0, X1, X2, X3, .map (some m), landFn p, .nilFunc, .func (.func 58) #[] #[], .func (.func 59) #[] #[], .func (.func 60) #[] #[.pointer (some ⟨q, 0, none⟩)]] 51)) #[.int .i64 r.id, .int .i64 r.src, .int .i64 r.acc, .int .i64 r.made, .int .i64 r.about, .int .u8 r.kind, .int .i64 r.cents, .int .i64 r.of_] 56
  simp only [World.size_alloc] at kr
  have h1 := h.below b1
  have HL := Lib.hid (law_any X0 X1 X2 X3 .nilFunc (.func (.func 58) #[] #[]) (.func (.func 59) #[] #[]) (.func (.func 60) #[] #[.pointer (some ⟨q, 0, none⟩)]) m n p laws homes r _ h1.law h1.land hv hvh (hF.wf r hr))
  have HV : Hid (lastV laws homes facts r = (lawP laws homes r).map fun x => lastBy x facts r) := Lib.hid (by unfold lastV; rw [lawP_eq hv])
  have HX : Hid (∀ x, lawP laws homes r = some x → (1 ≤ x.base ∧ x.base ≤ 3) ∧ (0 ≤ x.keep ∧ x.keep ≤ 100000) ∧ leastL [startP facts x.base r + x.keep] = lastBy x facts r) := Lib.hid (fun x hx => by
    rw [lawP_eq hv] at hx
    have hm := List.mem_of_find?_eq_some hx
    have hk := laws_keep hv x hm
    refine ⟨?_, hk, last_least (fun r hr => ⟨(hF.wf r hr).about, (hF.wf r hr).made⟩) hr hk⟩
    unfold lawsB at hv
    simp only [Bool.and_eq_true] at hv
    have := List.all_eq_true.1 hv.1.2 x hm
    unfold lawB1 at this
    simp only [Bool.and_eq_true, inN_iff] at this
    exact this.1.2)
  have hfa := hF.wf r hr
  have hlc := close_both r.acc facts (-1) 300000 (fun r hr => (hF.wf r hr).about) (.inl ⟨by omega, rfl⟩)
  simp only at hlc
  have hlb : Hid (0 ≤ leastL (closingsL facts r.acc) ∧ leastL (closingsL facts r.acc) ≤ 300000) := Lib.hid (by unfold leastL; omega)
  have hfl : facts.length ≤ 1000 := by have := hF.len; omega
  clear h hv hvh hF hr hlc
  generalize lastV laws homes facts r = V at *
  go_enter Tryz.func18, Tryz.ntmps18
  go_upto_region 1 with fail
  generalize hW1 : (w.alloc (.cells #[X0, X1, X2, X3, .map (some m), landFn p, .nilFunc, .func (.func 58) #[] #[], .func (.func 59) #[] #[], .func (.func 60) #[] #[.pointer (some ⟨q, 0, none⟩)]] 51)).alloc (.cells #[.int .i64 r.id, .int .i64 r.src, .int .i64 r.acc, .int .i64 r.made, .int .i64 r.about, .int .u8 r.kind, .int .i64 r.cents, .int .i64 r.of_] 56) = W1 at *
  clear hW1
  have gb := kb.lt
  have gr := kr.lt
  have kbc := kb.cell
  have krc := kr.cell
  cases hP : lawP laws homes r with
  | none =>
    rw [hP] at HL HV
    have HE : Hid (V = none) := Lib.hid (by rw [HV.out]; rfl)
    clear hP HX
    unfold lawVal at HL
    go_wp2_with (go_at_call 36; (with_reducible refine (HL.out).mono ?_); rintro e w2 ⟨rfl, h2⟩)
    go_ret2
    have h3 := b1.trans (h2.mono b1.size)
    exact ⟨by rw [HE.out]; rfl, h3.alloc h3.size _⟩
  | some x =>
    obtain ⟨hb3, hk3, hlast⟩ := HX.out x hP
    rw [hP] at HL HV
    have HE : Hid (V = some (leastL [startP facts x.base r + x.keep])) := Lib.hid (by rw [HV.out, hlast]; rfl)
    clear hP HX hlast HV
    unfold lawVal at HL
    go_upto_region 4 with (go_at_call 36; (with_reducible refine (HL.out).mono ?_); rintro e w2 ⟨rfl, h2⟩; have b2 := b1.trans (h2.mono b1.size); have bx := b2.alloc b2.size (.cells #[.int .i64 x.land, .int .u8 x.kind, .int .u8 x.base, .int .i64 x.keep] 79); have kx := Blk.new w2 #[.int .i64 x.land, .int .u8 x.kind, .int .u8 x.base, .int .i64 x.keep] 79; have kb2 := (kb.below h2 gb).alloc (.cells #[.int .i64 x.land, .int .u8 x.kind, .int .u8 x.base, .int .i64 x.keep] 79); have kr2 := (kr.below h2 gr).alloc (.cells #[.int .i64 x.land, .int .u8 x.kind, .int .u8 x.base, .int .i64 x.keep] 79); have m2 := (h1.below h2).below ((Below.refl w2.heap.size w2).alloc (Nat.le_refl _) (.cells #[.int .i64 x.land, .int .u8 x.kind, .int .u8 x.base, .int .i64 x.keep] 79)))
    clear kb kr kbc krc h1 h2 b2 gb gr HL
    generalize hW2 : w2.alloc (.cells #[.int .i64 x.land, .int .u8 x.kind, .int .u8 x.base, .int .i64 x.keep] 79) = W2 at *
    clear hW2
    have kxc := kx.cell
    have kbc := kb2.cell
    have krc := kr2.cell
    have gx := kx.lt
    have hq1 := m2.start.1
    have hh : x.base = 1 ∨ x.base = 2 ∨ x.base = 3 := by omega
    have HM := Lib.hid m2
    clear m2 kb2 kr2
    obtain ⟨xl, xk, xb, xp⟩ := x
    simp only at hb3 hk3 hh kxc HE kx
    rcases hh with rfl | rfl | rfl
    · have hst : startP facts 1 r = r.about := rfl
      rw [hst] at HE
      have hs : IntKind.i64.wrap (r.about + xp) = r.about + xp := IntWalk.i64_in _ (by have := hfa.about; omega)
      have HS := Lib.hid (start1_any r W2.drew)
      clear hst hfa hlb
      go_region_with (first
        | (go_at_call 58; (with_reducible refine (HS.out).mono ?_); rintro e w3 ⟨rfl, h3⟩; have kxd := (kx.drew.below h3 gx).cell; have hf3 := bx.drew.trans (h3.mono bx.size))
        | (go_at_call 37; (with_reducible refine (leastOne_any _ _ _).mono ?_); rintro e w4 ⟨rfl, rfl⟩))
      all_goals (go_wp2_with fail)
      all_goals go_ret2
      all_goals exact ⟨by rw [HE.out]; rfl, hf3.alloc hf3.size _⟩
    · have hst : startP facts 2 r = r.made := rfl
      rw [hst] at HE
      have hs : IntKind.i64.wrap (r.made + xp) = r.made + xp := IntWalk.i64_in _ (by have := hfa.made; omega)
      have HS := Lib.hid (start2_any r W2.drew)
      clear hst hfa hlb
      go_region_with (first
        | (go_at_call 59; (with_reducible refine (HS.out).mono ?_); rintro e w3 ⟨rfl, h3⟩; have kxd := (kx.drew.below h3 gx).cell; have hf3 := bx.drew.trans (h3.mono bx.size))
        | (go_at_call 37; (with_reducible refine (leastOne_any _ _ _).mono ?_); rintro e w4 ⟨rfl, rfl⟩))
      all_goals (go_wp2_with fail)
      all_goals go_ret2
      all_goals exact ⟨by rw [HE.out]; rfl, hf3.alloc hf3.size _⟩
    · have hst : startP facts 3 r = leastL (closingsL facts r.acc) := rfl
      rw [hst] at HE
      have HM2 := HM.out.below (Below.refl W2.heap.size W2).drew
      have HS := Lib.hid (start3_any r q F cf facts W2.drew HM2.start HM2.reps hfl)
      clear HM2
      obtain ⟨hz1, hz2⟩ := hlb.out
      generalize leastL (closingsL facts r.acc) = z at *
      have hs : IntKind.i64.wrap (z + xp) = z + xp := IntWalk.i64_in _ (by omega)
      clear hst hfa hlb
      go_region_with (first
        | (go_at_call 60; (with_reducible refine (HS.out).mono ?_); rintro e w3 ⟨rfl, h3⟩; have kxd := (kx.drew.below h3 gx).cell; have hf3 := bx.drew.trans (h3.mono bx.size))
        | (go_at_call 37; (with_reducible refine (leastOne_any _ _ _).mono ?_); rintro e w4 ⟨rfl, rfl⟩))
      all_goals (go_wp2_with fail)
      all_goals go_ret2
      all_goals exact ⟨by rw [HE.out]; rfl, hf3.alloc hf3.size _⟩
end Go.Proofs.YtkpaikampmeooaaGreatDoor
