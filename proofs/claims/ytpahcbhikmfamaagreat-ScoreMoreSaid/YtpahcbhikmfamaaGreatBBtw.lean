/- The least and the greatest score, by the program. Written by a program. -/
import Derived.Test.YtpahcbhikmfamaaGreatBCh4
import Derived.Test.YtpahcbhikmfamaaGreatRB

namespace Go.Proofs.YtpahcbhikmfamaaGreat
open Go.RowKit Go.Shelf

attribute [local go_sem] Oper.semAt_some

set_option maxRecDepth 100000 in
theorem lists_any (traits need : Int) (C T' S SA : Option Addr) (cl c tl t n' s sc T : Nat) (w : World) :
    Calls Tryz.prog 37 #[.agg #[.int .i64 traits, .slice C cl c, .slice T' tl t, .int .i64 need, .slice S n' s], .slice SA T sc] w fun e w' => e = .returned (.func (.func 45) #[] #[.pointer (some ⟨w.heap.size, 0, none⟩), .pointer (some ⟨w.heap.size + 1, 0, none⟩)]) ∧ w' = (w.alloc (.cells #[.int .i64 traits, .slice C cl c, .slice T' tl t, .int .i64 need, .slice S n' s] 66)).alloc (.cells #[.slice SA T sc] 58) := by
  go_enter Tryz.func37, Tryz.ntmps37
  go_wp2_with fail
  go_ret
  exact ⟨by simp, rfl⟩
def negMax (l : List Int) : Int := l.foldl (fun a n => max a (-n)) (-9223372036854775808)
theorem negMax_snoc (l : List Int) (n : Int) : negMax (l ++ [n]) = max (negMax l) (-n) := by unfold negMax; rw [List.foldl_append]; rfl
theorem loL_neg (l : List Int) : loL l = -(negMax l) := rfl
theorem negFold_ge : ∀ (l : List Int) (a : Int), a ≤ l.foldl (fun a n => max a (-n)) a ∧ ∀ x ∈ l, -x ≤ l.foldl (fun a n => max a (-n)) a
  | [], a => ⟨Int.le_refl _, fun x hx => by cases hx⟩
  | y :: l, a => by
    obtain ⟨h1, h2⟩ := negFold_ge l (max a (-y))
    rw [List.foldl_cons]
    refine ⟨by omega, fun x hx => ?_⟩
    rcases List.mem_cons.1 hx with rfl | hx
    · omega
    · exact h2 x hx
theorem negFold_le (B : Int) : ∀ (l : List Int) (a : Int), a ≤ B → (∀ x ∈ l, -x ≤ B) → l.foldl (fun a n => max a (-n)) a ≤ B
  | [], _, h, _ => h
  | y :: l, a, h, h' => negFold_le B l (max a (-y)) (by have h9 := h' y (by simp); omega) (fun x hx => h' x (by simp [hx]))
theorem negMax_low (l : List Int) (h : ∀ x ∈ l, x ≤ 4611686018427387904) (hne : l ≠ []) : -4611686018427387904 ≤ negMax l := by
  obtain ⟨x, hx⟩ := List.exists_mem_of_ne_nil l hne
  have := (negFold_ge l (-9223372036854775808)).2 x hx
  have := h x hx
  unfold negMax; omega
theorem negMax_high (l : List Int) (h : ∀ x ∈ l, -4611686018427387904 ≤ x) : negMax l ≤ 4611686018427387904 := negFold_le 4611686018427387904 l _ (by omega) (fun x hx => by have := h x hx; omega)

theorem vc_keep {l : Nat} {r0 : Loop} {A : Option Addr} {v : List Int} {W0 Wa : World} (h : IntsAt W0 W0.heap.size A v) (hr0 : W0.heap[l]? = some (.loop r0)) (hk : Kpt (fun b => b ≠ l) W0 Wa) : IntsAt Wa Wa.heap.size A v := fun k hk' => by
  obtain ⟨b, off, e, hb, hc⟩ := h k hk'
  have hne : b ≠ l := by
    rintro rfl
    have := hc 0 (by omega)
    simp [World.cell?, hr0, intC] at this
  exact ⟨b, off, e, Nat.lt_of_lt_of_le hb hk.size, fun i hi => (hk.cell hb hne).trans (hc i hi)⟩
set_option maxRecDepth 100000 in
set_option maxHeartbeats 60000000 in
theorem between_any (traits need : Int) (C T' S SA : Option Addr) (cl c tl t n' s sc T : Nat) (sp : List Spn) (cs : Nat → List Int) (hT : T ≤ 1000) (hsp : sp.length = T) (scf : List Int → Int) (hsc : ∀ x, -4611686018427387904 ≤ scf x ∧ scf x ≤ 4611686018427387904) (hne : listsS T sp cs ≠ []) (w : World)
    (hS : SpnsAt w w.heap.size SA sp) (HC : ∀ W, Below w.heap.size w W → Calls Tryz.prog 46 #[.agg #[.int .i64 traits, .slice C cl c, .slice T' tl t, .int .i64 need, .slice S n' s]] W (CutsS W T cs))
    (HSc : ∀ W (X : Option Addr) (xc : Nat) (x : List Int), Below w.heap.size w W → IntsAt W W.heap.size X x → x.length = T → Calls Tryz.prog 19 #[.agg #[.int .i64 traits, .slice C cl c, .slice T' tl t, .int .i64 need, .slice S n' s], .slice X x.length xc] W fun e w' => e = .returned (.int .i64 (scf x)) ∧ Below W.heap.size W w') :
    CallsIn Fence.wide 8 Tryz.prog 24 #[.agg #[.int .i64 traits, .slice C cl c, .slice T' tl t, .int .i64 need, .slice S n' s], .slice SA T sc] w fun e w' => e = .returned (.agg #[.int .i64 (loL ((listsS T sp cs).map scf)), .int .i64 (hiL ((listsS T sp cs).map scf))]) ∧ Below w.heap.size w w' := by
  have h1 : (1 : Nat) ≤ 8 := by omega
  have hfn : ∀ f, Fence.wide.fn f := fun _ => trivial
  have hdep : Fence.wide.depth.isSome = false := rfl
  have hmx : Tryz.prog.follows .mixedOrders = true := by kernel_rfl
  have b1 := (Below.refl w.heap.size w).alloc (Nat.le_refl _) (.cells #[.int .i64 traits, .slice C cl c, .slice T' tl t, .int .i64 need, .slice S n' s] 66)
  have k1 := Blk.new w #[.int .i64 traits, .slice C cl c, .slice T' tl t, .int .i64 need, .slice S n' s] 66
  have k1c := k1.cell
  have HLi := Lib.hid (fun W => callsIn_wide (n := 7) |>.2 (lists_any traits need C T' S SA cl c tl t n' s sc T W))
  refine callsIn_of_wp_marks Tryz.func24 rfl trivial ?_ rfl
  simp only [Tryz.ntmps24, List.size_toArray, List.length_cons, List.length_nil, Nat.reduceAdd, Nat.reduceSub, Array.replicate_succ, Array.replicate_zero, List.push_toArray, List.append_toArray, List.nil_append, List.cons_append]
  gi_wp2_with (gi_at_call 37; refine (HLi.out _).mono ?_; rintro e w5 ⟨rfl, rfl⟩)
  have b5 : Below w.heap.size w (((((w.alloc (.cells #[.int .i64 traits, .slice C cl c, .slice T' tl t, .int .i64 need, .slice S n' s] 66)).alloc (.cells #[.int .i64 0, .int .i64 0] 54)).alloc (.cells #[.int .i64 (-9223372036854775808), .int .i64 (-9223372036854775808)] 90)).alloc (.cells #[.int .i64 traits, .slice C cl c, .slice T' tl t, .int .i64 need, .slice S n' s] 66)).alloc (.cells #[.slice SA T sc] 58)) := (((((Below.refl _ w).alloc (Nat.le_refl _) _).alloc (by simp) _).alloc (by simp; omega) _).alloc (by simp; omega) _).alloc (by simp; omega) _
  have k1 : Blk (((((w.alloc (.cells #[.int .i64 traits, .slice C cl c, .slice T' tl t, .int .i64 need, .slice S n' s] 66)).alloc (.cells #[.int .i64 0, .int .i64 0] 54)).alloc (.cells #[.int .i64 (-9223372036854775808), .int .i64 (-9223372036854775808)] 90)).alloc (.cells #[.int .i64 traits, .slice C cl c, .slice T' tl t, .int .i64 need, .slice S n' s] 66)).alloc (.cells #[.slice SA T sc] 58)) w.heap.size #[.int .i64 traits, .slice C cl c, .slice T' tl t, .int .i64 need, .slice S n' s] 66 := ((((Blk.new w _ _).alloc _).alloc _).alloc _).alloc _
  have kr : Blk (((((w.alloc (.cells #[.int .i64 traits, .slice C cl c, .slice T' tl t, .int .i64 need, .slice S n' s] 66)).alloc (.cells #[.int .i64 0, .int .i64 0] 54)).alloc (.cells #[.int .i64 (-9223372036854775808), .int .i64 (-9223372036854775808)] 90)).alloc (.cells #[.int .i64 traits, .slice C cl c, .slice T' tl t, .int .i64 need, .slice S n' s] 66)).alloc (.cells #[.slice SA T sc] 58)) (w.heap.size + 1) #[.int .i64 0, .int .i64 0] 54 := (((newAt' (w.alloc (.cells #[.int .i64 traits, .slice C cl c, .slice T' tl t, .int .i64 need, .slice S n' s] 66)) _ _ (by simp)).alloc _).alloc _).alloc _
  have ke : Blk (((((w.alloc (.cells #[.int .i64 traits, .slice C cl c, .slice T' tl t, .int .i64 need, .slice S n' s] 66)).alloc (.cells #[.int .i64 0, .int .i64 0] 54)).alloc (.cells #[.int .i64 (-9223372036854775808), .int .i64 (-9223372036854775808)] 90)).alloc (.cells #[.int .i64 traits, .slice C cl c, .slice T' tl t, .int .i64 need, .slice S n' s] 66)).alloc (.cells #[.slice SA T sc] 58)) (w.heap.size + 1 + 1) #[.int .i64 (-9223372036854775808), .int .i64 (-9223372036854775808)] 90 := ((newAt' ((w.alloc (.cells #[.int .i64 traits, .slice C cl c, .slice T' tl t, .int .i64 need, .slice S n' s] 66)).alloc (.cells #[.int .i64 0, .int .i64 0] 54)) _ _ (by simp)).alloc _).alloc _
  have km : Blk (((((w.alloc (.cells #[.int .i64 traits, .slice C cl c, .slice T' tl t, .int .i64 need, .slice S n' s] 66)).alloc (.cells #[.int .i64 0, .int .i64 0] 54)).alloc (.cells #[.int .i64 (-9223372036854775808), .int .i64 (-9223372036854775808)] 90)).alloc (.cells #[.int .i64 traits, .slice C cl c, .slice T' tl t, .int .i64 need, .slice S n' s] 66)).alloc (.cells #[.slice SA T sc] 58)) (w.heap.size + 1 + 1 + 1) #[.int .i64 traits, .slice C cl c, .slice T' tl t, .int .i64 need, .slice S n' s] 66 := (newAt' (((w.alloc (.cells #[.int .i64 traits, .slice C cl c, .slice T' tl t, .int .i64 need, .slice S n' s] 66)).alloc (.cells #[.int .i64 0, .int .i64 0] 54)).alloc (.cells #[.int .i64 (-9223372036854775808), .int .i64 (-9223372036854775808)] 90)) _ _ (by simp)).alloc _
  have ks : Blk (((((w.alloc (.cells #[.int .i64 traits, .slice C cl c, .slice T' tl t, .int .i64 need, .slice S n' s] 66)).alloc (.cells #[.int .i64 0, .int .i64 0] 54)).alloc (.cells #[.int .i64 (-9223372036854775808), .int .i64 (-9223372036854775808)] 90)).alloc (.cells #[.int .i64 traits, .slice C cl c, .slice T' tl t, .int .i64 need, .slice S n' s] 66)).alloc (.cells #[.slice SA T sc] 58)) (w.heap.size + 1 + 1 + 1 + 1) #[.slice SA T sc] 58 := newAt' ((((w.alloc (.cells #[.int .i64 traits, .slice C cl c, .slice T' tl t, .int .i64 need, .slice S n' s] 66)).alloc (.cells #[.int .i64 0, .int .i64 0] 54)).alloc (.cells #[.int .i64 (-9223372036854775808), .int .i64 (-9223372036854775808)] 90)).alloc (.cells #[.int .i64 traits, .slice C cl c, .slice T' tl t, .int .i64 need, .slice S n' s] 66)) _ _ (by simp)
  have hs5 : (((((w.alloc (.cells #[.int .i64 traits, .slice C cl c, .slice T' tl t, .int .i64 need, .slice S n' s] 66)).alloc (.cells #[.int .i64 0, .int .i64 0] 54)).alloc (.cells #[.int .i64 (-9223372036854775808), .int .i64 (-9223372036854775808)] 90)).alloc (.cells #[.int .i64 traits, .slice C cl c, .slice T' tl t, .int .i64 need, .slice S n' s] 66)).alloc (.cells #[.slice SA T sc] 58)).heap.size = w.heap.size + 5 := by simp
  generalize (((((w.alloc (.cells #[.int .i64 traits, .slice C cl c, .slice T' tl t, .int .i64 need, .slice S n' s] 66)).alloc (.cells #[.int .i64 0, .int .i64 0] 54)).alloc (.cells #[.int .i64 (-9223372036854775808), .int .i64 (-9223372036854775808)] 90)).alloc (.cells #[.int .i64 traits, .slice C cl c, .slice T' tl t, .int .i64 need, .slice S n' s] 66)).alloc (.cells #[.slice SA T sc] 58)) = W5 at *
  have hSP : FlatP 2 spnC W5 (fun b => b < w.heap.size ∨ b = w.heap.size + 1 + 1 + 1 + 1) SA sp := FlatP.of_flat (hS.below b5) (by omega) (fun b hb => .inl hb)
  have HCW := Lib.hid (fun W (hb : Below W5.heap.size W5 W) => HC W (b5.trans (hb.mono b5.size)))
  clear k1c b1
  refine wpIn_rangeFunc_ownM (F := Fence.wide) rfl h1 (gf := 45) (lb := #[.pointer (some ⟨w.heap.size + 1 + 1 + 1, 0, none⟩), .pointer (some ⟨w.heap.size + 1 + 1 + 1 + 1, 0, none⟩)]) rfl trivial (enters_of Tryz.func45 (by kernel_rfl) rfl)
    (lists1_stops 7 (w.heap.size + 1 + 1 + 1) (w.heap.size + 1 + 1 + 1 + 1) T traits need C T' S SA cl c tl t n' s sc sp cs (fun b => b < w.heap.size ∨ b = w.heap.size + 1 + 1 + 1 + 1) hT hsp W5 km ks (.inr rfl) (fun b hb => by rcases hb with h | h <;> omega) hSP (fun W hb => HCW.out W hb))
    (fun b hb => by rcases hb with h | h <;> omega) (Below.refl _ _) (fun _ => rfl)
    (fun pre Wa => Blk Wa (w.heap.size + 1 + 1) #[.int .i64 (negMax ((pre.map Vc.v).map scf)), .int .i64 (hiL ((pre.map Vc.v).map scf))] 90 ∧ Blk Wa w.heap.size #[.int .i64 traits, .slice C cl c, .slice T' tl t, .int .i64 need, .slice S n' s] 66 ∧ Blk Wa (w.heap.size + 1) #[.int .i64 0, .int .i64 0] 54 ∧ Below w.heap.size w Wa ∧ W5.heap.size ≤ Wa.heap.size)
    (fun _ _ _ _ => False)
    ?own (fun _ _ _ _ _ h _ => h) ⟨ke, k1, kr, b5, Nat.le_refl _⟩
    (fun x => { tmps := #[.agg #[.int .i64 traits, .slice C cl c, .slice T' tl t, .int .i64 need, .slice S n' s], .slice SA T sc, .pointer (some ⟨w.heap.size, 0, none⟩), undef, .pointer (some ⟨w.heap.size + 1, 0, none⟩), .pointer (some ⟨w.heap.size + 1 + 1, 0, none⟩), .slice x.A x.v.length x.c, undef, .agg #[.int .i64 (-9223372036854775808), .int .i64 (-9223372036854775808)], .agg #[.int .i64 traits, .slice C cl c, .slice T' tl t, .int .i64 need, .slice S n' s], .slice SA T sc, .func (.func 45) #[] #[.pointer (some ⟨w.heap.size + 1 + 1 + 1, 0, none⟩), .pointer (some ⟨w.heap.size + 1 + 1 + 1 + 1, 0, none⟩)], .slice x.A x.v.length x.c, undef, undef, undef, undef, undef, undef, undef, undef, undef, undef, undef, undef, undef, undef, undef, undef, undef, undef, undef, undef, undef], defers := [] }) ?assign ?body ?done ?stop
  case own =>
    rintro pre A B ⟨q1, q2, q3, q4, q5⟩ hb
    exact ⟨q1.below hb (by omega), q2.below hb (by omega), q3.below hb (by omega), q4.trans (hb.mono (by omega)), Nat.le_trans q5 hb.size⟩
  case assign =>
    intro la x Wa K hK
    simp only [vcC]
    gi_wp2
    exact hK
  case body =>
    rintro la pre x Wa hla ⟨r, hr⟩ ⟨q1, q2, q3, q4, q5⟩ ⟨W0, ⟨hx0, hxT⟩, ⟨r0, hr0⟩, hk0⟩ hsz
    have hx := vc_keep hx0 hr0 hk0
    have hwn : IntKind.i64.wrap (-(scf x.v)) = -(scf x.v) := IntWalk.i64_in _ (by have := hsc x.v; omega)
    have q2c := q2.cell
    have HS1 := Lib.hid (CallsIn.inRound la ((callsIn_wide (n := 5)).2 (HSc Wa x.A x.c x.v q4 hx hxT)))
    clear hx0 hk0 hr0 hxT
    gi_wp2_with (gi_at_call 19; refine (HS1.out).mono ?_; rintro e w2 ⟨rfl, h2⟩)
    have q1w := q1.below h2 q1.lt
    have e0 := q1w.cell
    have e1 : ∀ o i, (w2.alloc o).cell? ⟨w.heap.size + 1 + 1, i, none⟩ = _ := fun o => (q1w.alloc o).cell
    have e2 : ∀ o o' i, ((w2.alloc o).alloc o').cell? ⟨w.heap.size + 1 + 1, i, none⟩ = _ := fun o o' => ((q1w.alloc o).alloc o').cell
    have f2 : ∀ o o' i, ((w2.alloc o).alloc o').frozen? ⟨w.heap.size + 1 + 1, i, none⟩ = _ := fun o o' => ((q1w.alloc o).alloc o').free
    have HE : Hid (negMax (((pre ++ [x]).map Vc.v).map scf) = max (negMax ((pre.map Vc.v).map scf)) (-(scf x.v)) ∧ hiL (((pre ++ [x]).map Vc.v).map scf) = max (hiL ((pre.map Vc.v).map scf)) (scf x.v)) := Lib.hid ⟨by rw [List.map_append, List.map_append]; exact negMax_snoc _ _, by rw [List.map_append, List.map_append]; exact hiL_snoc _ _⟩
    have HQ := Lib.hid (And.intro (q2.below h2 q2.lt) (And.intro (q3.below h2 q3.lt) (And.intro (q4.trans (h2.mono q4.size)) (And.intro (Nat.le_trans q5 h2.size) h2))))
    generalize scf x.v = z at *
    have G1 : Hid (∀ (n z : Int), CallsIn (Fence.wide.inRound la) 5 Tryz.prog 38 #[.int .i64 n, .slice (some ⟨(w2.heap.size), 0, none⟩) 1 1] ((w2.alloc (.cells #[.int .i64 z] 3)).drew) fun e w' => e = .returned (.int .i64 (max n z)) ∧ ((w2.alloc (.cells #[.int .i64 z] 3)).drew) = w') := Lib.hid (fun n z => CallsIn.inRound la (callsIn_wide.2 (greatest_any n z (w2.heap.size) 1 _ ((Blk.new w2 _ _).drew.cell 0) (by first | (simp; done) | (simp; omega)))))
    have G2 : Hid (∀ (n z : Int) (o : Obj), CallsIn (Fence.wide.inRound la) 5 Tryz.prog 38 #[.int .i64 n, .slice (some ⟨(w2.heap.size), 0, none⟩) 1 1] (((w2.alloc (.cells #[.int .i64 z] 3)).alloc o).drew) fun e w' => e = .returned (.int .i64 (max n z)) ∧ (((w2.alloc (.cells #[.int .i64 z] 3)).alloc o).drew) = w') := Lib.hid (fun n z o => CallsIn.inRound la (callsIn_wide.2 (greatest_any n z (w2.heap.size) 1 _ (((Blk.new w2 _ _).alloc _).drew.cell 0) (by first | (simp; done) | (simp; omega)))))
    have G3 : Hid (∀ (n z : Int) (o : Obj), CallsIn (Fence.wide.inRound la) 5 Tryz.prog 38 #[.int .i64 n, .slice (some ⟨(w2.heap.size + 1), 0, none⟩) 1 1] (((w2.alloc o).alloc (.cells #[.int .i64 z] 3)).drew) fun e w' => e = .returned (.int .i64 (max n z)) ∧ (((w2.alloc o).alloc (.cells #[.int .i64 z] 3)).drew) = w') := Lib.hid (fun n z o => CallsIn.inRound la (callsIn_wide.2 (greatest_any n z (w2.heap.size + 1) 1 _ ((newAt' (w2.alloc o) _ _ (by simp)).drew.cell 0) (by first | (simp; done) | (simp; omega)))))
    generalize negMax ((pre.map Vc.v).map scf) = ea at *
    generalize hiL ((pre.map Vc.v).map scf) = eb at *
    clear HS1 HCW HSc HC hS hSP hsc hne hsp k1 kr ke km ks hr q2c hx h1 b5
    refine wpIn_mono (Q := fun e a' w' => e = .normal ∧ ∃ o o', w' = (((w2.alloc o).alloc o').drew.setCell ⟨w.heap.size + 1 + 1, 0, none⟩ (.int .i64 (max ea (-z)))).setCell ⟨w.heap.size + 1 + 1, 1, none⟩ (.int .i64 (max eb z))) ?_ ?_
    · refine wpIn_region_round rfl (by kernel_rfl) (by kernel_rfl) ?_
      refine wpAnyIn_take (i := 0) (v := ?_) rfl rfl (by kernel_rfl) (by kernel_rfl) (by kernel_rfl) (fun _ _ _ h => h) ⟨Or.inl ⟨by rfl, ?_⟩, fun _ => rfl⟩ ?_
      case refine_2 => intro w; go_simp; first | done | with_reducible rfl
      refine wpAnyIn_take (i := 2) (v := ?_) rfl rfl (by kernel_rfl) (by kernel_rfl) (by kernel_rfl) (fun _ _ _ h => h) ⟨Or.inl ⟨by rfl, ?_⟩, fun _ => rfl⟩ ?_
      case refine_2 => intro w; go_simp; first | done | with_reducible rfl
      refine wpAnyIn_take (i := 3) (v := ?_) rfl rfl (by kernel_rfl) (by kernel_rfl) (by kernel_rfl) (fun _ _ _ h => h) ⟨Or.inl ⟨by rfl, ?_⟩, fun _ => rfl⟩ ?_
      case refine_2 => intro w; go_simp; first | done | with_reducible rfl
      refine wpAnyIn_take (i := 6) (v := ?_) rfl rfl (by kernel_rfl) (by kernel_rfl) (by kernel_rfl) (fun _ _ _ h => h) ⟨Or.inl ⟨by rfl, ?_⟩, fun _ => rfl⟩ ?_
      case refine_2 => intro w; go_simp; first | done | with_reducible rfl
      refine wpAnyIn_take (i := 8) (v := ?_) rfl rfl (by kernel_rfl) (by kernel_rfl) (by kernel_rfl) (fun _ _ _ h => h) ⟨Or.inl ⟨by rfl, ?_⟩, fun _ => rfl⟩ ?_
      case refine_2 => intro w; go_simp; first | done | with_reducible rfl
      refine wpAnyIn_ready (rs := [1, 4, 7, 9]) (by kernel_rfl) (by simp) ?_
      refine AllReadyIn.cons rfl (fun K hK => ?_) ?_
      · go_simp
        refine hK _ _ ?_; clear hK K
        refine wpAnyIn_ready (rs := [4, 7, 9]) (by kernel_rfl) (by simp) ?_
        refine AllReadyIn.cons rfl (fun K hK => ?_) ?_
        · go_simp
          refine hK _ _ ?_; clear hK K
          refine wpAnyIn_ready (rs := [5, 7, 9]) (by kernel_rfl) (by simp) ?_
          refine AllReadyIn.cons rfl (fun K hK => ?_) ?_
          · go_simp
            gi_wp2_with (gi_at_call 38; refine (CallsIn.outOfRound (G1.out _ _)).mono ?_; rintro e w9 ⟨rfl, rfl⟩)
            refine wpAnyIn_ready (rs := [7, 9]) (by kernel_rfl) (by simp) ?_
            refine AllReadyIn.cons rfl (fun K hK => ?_) ?_
            · go_simp
              refine hK _ _ ?_; clear hK K
              refine wpAnyIn_ready (rs := [9]) (by kernel_rfl) (by simp) ?_
              refine AllReadyIn.cons rfl (fun K hK => ?_) ?_
              · go_simp
                refine hK _ _ ?_; clear hK K
                refine wpAnyIn_ready (rs := [10]) (by kernel_rfl) (by simp) ?_
                refine AllReadyIn.cons rfl (fun K hK => ?_) ?_
                · go_simp
                  gi_wp2_with (gi_at_call 38; refine (CallsIn.outOfRound (G3.out _ _ _)).mono ?_; rintro e w9 ⟨rfl, rfl⟩)
                  refine wpAnyIn_take (i := 11) (v := ?_) rfl rfl (by kernel_rfl) (by kernel_rfl) (by kernel_rfl) (fun _ _ _ h => h) ⟨Or.inl ⟨by rfl, ?_⟩, fun _ => rfl⟩ ?_
                  case refine_2 => intro w; go_simp; first | done | with_reducible rfl
                  refine wpAnyIn_ready (rs := [12]) (by kernel_rfl) (by simp) ?_
                  refine AllReadyIn.cons rfl (fun K hK => ?_) ?_
                  · go_simp
                    refine hK _ _ ?_; clear hK K
                    refine wpAnyIn_done (by kernel_rfl) ?_ _
                    exact ⟨rfl, _, _, rfl⟩
                  exact AllReadyIn.nil
                exact AllReadyIn.nil
              exact AllReadyIn.nil
            refine AllReadyIn.cons rfl (fun K hK => ?_) ?_
            · go_simp
              refine hK _ _ ?_; clear hK K
              refine wpAnyIn_ready (rs := [7]) (by kernel_rfl) (by simp) ?_
              refine AllReadyIn.cons rfl (fun K hK => ?_) ?_
              · go_simp
                refine hK _ _ ?_; clear hK K
                refine wpAnyIn_ready (rs := [10]) (by kernel_rfl) (by simp) ?_
                refine AllReadyIn.cons rfl (fun K hK => ?_) ?_
                · go_simp
                  gi_wp2_with (gi_at_call 38; refine (CallsIn.outOfRound (G3.out _ _ _)).mono ?_; rintro e w9 ⟨rfl, rfl⟩)
                  refine wpAnyIn_take (i := 11) (v := ?_) rfl rfl (by kernel_rfl) (by kernel_rfl) (by kernel_rfl) (fun _ _ _ h => h) ⟨Or.inl ⟨by rfl, ?_⟩, fun _ => rfl⟩ ?_
                  case refine_2 => intro w; go_simp; first | done | with_reducible rfl
                  refine wpAnyIn_ready (rs := [12]) (by kernel_rfl) (by simp) ?_
                  refine AllReadyIn.cons rfl (fun K hK => ?_) ?_
                  · go_simp
                    refine hK _ _ ?_; clear hK K
                    refine wpAnyIn_done (by kernel_rfl) ?_ _
                    exact ⟨rfl, _, _, rfl⟩
                  exact AllReadyIn.nil
                exact AllReadyIn.nil
              exact AllReadyIn.nil
            exact AllReadyIn.nil
          refine AllReadyIn.cons rfl (fun K hK => ?_) ?_
          · go_simp
            refine hK _ _ ?_; clear hK K
            refine wpAnyIn_ready (rs := [5, 9]) (by kernel_rfl) (by simp) ?_
            refine AllReadyIn.cons rfl (fun K hK => ?_) ?_
            · go_simp
              gi_wp2_with (gi_at_call 38; refine (CallsIn.outOfRound (G1.out _ _)).mono ?_; rintro e w9 ⟨rfl, rfl⟩)
              refine wpAnyIn_ready (rs := [9]) (by kernel_rfl) (by simp) ?_
              refine AllReadyIn.cons rfl (fun K hK => ?_) ?_
              · go_simp
                refine hK _ _ ?_; clear hK K
                refine wpAnyIn_ready (rs := [10]) (by kernel_rfl) (by simp) ?_
                refine AllReadyIn.cons rfl (fun K hK => ?_) ?_
                · go_simp
                  gi_wp2_with (gi_at_call 38; refine (CallsIn.outOfRound (G3.out _ _ _)).mono ?_; rintro e w9 ⟨rfl, rfl⟩)
                  refine wpAnyIn_take (i := 11) (v := ?_) rfl rfl (by kernel_rfl) (by kernel_rfl) (by kernel_rfl) (fun _ _ _ h => h) ⟨Or.inl ⟨by rfl, ?_⟩, fun _ => rfl⟩ ?_
                  case refine_2 => intro w; go_simp; first | done | with_reducible rfl
                  refine wpAnyIn_ready (rs := [12]) (by kernel_rfl) (by simp) ?_
                  refine AllReadyIn.cons rfl (fun K hK => ?_) ?_
                  · go_simp
                    refine hK _ _ ?_; clear hK K
                    refine wpAnyIn_done (by kernel_rfl) ?_ _
                    exact ⟨rfl, _, _, rfl⟩
                  exact AllReadyIn.nil
                exact AllReadyIn.nil
              exact AllReadyIn.nil
            refine AllReadyIn.cons rfl (fun K hK => ?_) ?_
            · go_simp
              refine hK _ _ ?_; clear hK K
              refine wpAnyIn_ready (rs := [5]) (by kernel_rfl) (by simp) ?_
              refine AllReadyIn.cons rfl (fun K hK => ?_) ?_
              · go_simp
                gi_wp2_with (gi_at_call 38; refine (CallsIn.outOfRound (G2.out _ _ _)).mono ?_; rintro e w9 ⟨rfl, rfl⟩)
                refine wpAnyIn_ready (rs := [10]) (by kernel_rfl) (by simp) ?_
                refine AllReadyIn.cons rfl (fun K hK => ?_) ?_
                · go_simp
                  gi_wp2_with (gi_at_call 38; refine (CallsIn.outOfRound (G3.out _ _ _)).mono ?_; rintro e w9 ⟨rfl, rfl⟩)
                  refine wpAnyIn_take (i := 11) (v := ?_) rfl rfl (by kernel_rfl) (by kernel_rfl) (by kernel_rfl) (fun _ _ _ h => h) ⟨Or.inl ⟨by rfl, ?_⟩, fun _ => rfl⟩ ?_
                  case refine_2 => intro w; go_simp; first | done | with_reducible rfl
                  refine wpAnyIn_ready (rs := [12]) (by kernel_rfl) (by simp) ?_
                  refine AllReadyIn.cons rfl (fun K hK => ?_) ?_
                  · go_simp
                    refine hK _ _ ?_; clear hK K
                    refine wpAnyIn_done (by kernel_rfl) ?_ _
                    exact ⟨rfl, _, _, rfl⟩
                  exact AllReadyIn.nil
                exact AllReadyIn.nil
              exact AllReadyIn.nil
            exact AllReadyIn.nil
          refine AllReadyIn.cons rfl (fun K hK => ?_) ?_
          · go_simp
            refine hK _ _ ?_; clear hK K
            refine wpAnyIn_ready (rs := [5, 7]) (by kernel_rfl) (by simp) ?_
            refine AllReadyIn.cons rfl (fun K hK => ?_) ?_
            · go_simp
              gi_wp2_with (gi_at_call 38; refine (CallsIn.outOfRound (G2.out _ _ _)).mono ?_; rintro e w9 ⟨rfl, rfl⟩)
              refine wpAnyIn_ready (rs := [7]) (by kernel_rfl) (by simp) ?_
              refine AllReadyIn.cons rfl (fun K hK => ?_) ?_
              · go_simp
                refine hK _ _ ?_; clear hK K
                refine wpAnyIn_ready (rs := [10]) (by kernel_rfl) (by simp) ?_
                refine AllReadyIn.cons rfl (fun K hK => ?_) ?_
                · go_simp
                  gi_wp2_with (gi_at_call 38; refine (CallsIn.outOfRound (G3.out _ _ _)).mono ?_; rintro e w9 ⟨rfl, rfl⟩)
                  refine wpAnyIn_take (i := 11) (v := ?_) rfl rfl (by kernel_rfl) (by kernel_rfl) (by kernel_rfl) (fun _ _ _ h => h) ⟨Or.inl ⟨by rfl, ?_⟩, fun _ => rfl⟩ ?_
                  case refine_2 => intro w; go_simp; first | done | with_reducible rfl
                  refine wpAnyIn_ready (rs := [12]) (by kernel_rfl) (by simp) ?_
                  refine AllReadyIn.cons rfl (fun K hK => ?_) ?_
                  · go_simp
                    refine hK _ _ ?_; clear hK K
                    refine wpAnyIn_done (by kernel_rfl) ?_ _
                    exact ⟨rfl, _, _, rfl⟩
                  exact AllReadyIn.nil
                exact AllReadyIn.nil
              exact AllReadyIn.nil
            refine AllReadyIn.cons rfl (fun K hK => ?_) ?_
            · go_simp
              refine hK _ _ ?_; clear hK K
              refine wpAnyIn_ready (rs := [5]) (by kernel_rfl) (by simp) ?_
              refine AllReadyIn.cons rfl (fun K hK => ?_) ?_
              · go_simp
                gi_wp2_with (gi_at_call 38; refine (CallsIn.outOfRound (G2.out _ _ _)).mono ?_; rintro e w9 ⟨rfl, rfl⟩)
                refine wpAnyIn_ready (rs := [10]) (by kernel_rfl) (by simp) ?_
                refine AllReadyIn.cons rfl (fun K hK => ?_) ?_
                · go_simp
                  gi_wp2_with (gi_at_call 38; refine (CallsIn.outOfRound (G3.out _ _ _)).mono ?_; rintro e w9 ⟨rfl, rfl⟩)
                  refine wpAnyIn_take (i := 11) (v := ?_) rfl rfl (by kernel_rfl) (by kernel_rfl) (by kernel_rfl) (fun _ _ _ h => h) ⟨Or.inl ⟨by rfl, ?_⟩, fun _ => rfl⟩ ?_
                  case refine_2 => intro w; go_simp; first | done | with_reducible rfl
                  refine wpAnyIn_ready (rs := [12]) (by kernel_rfl) (by simp) ?_
                  refine AllReadyIn.cons rfl (fun K hK => ?_) ?_
                  · go_simp
                    refine hK _ _ ?_; clear hK K
                    refine wpAnyIn_done (by kernel_rfl) ?_ _
                    exact ⟨rfl, _, _, rfl⟩
                  exact AllReadyIn.nil
                exact AllReadyIn.nil
              exact AllReadyIn.nil
            exact AllReadyIn.nil
          exact AllReadyIn.nil
        refine AllReadyIn.cons rfl (fun K hK => ?_) ?_
        · go_simp
          refine hK _ _ ?_; clear hK K
          refine wpAnyIn_ready (rs := [4, 9]) (by kernel_rfl) (by simp) ?_
          refine AllReadyIn.cons rfl (fun K hK => ?_) ?_
          · go_simp
            refine hK _ _ ?_; clear hK K
            refine wpAnyIn_ready (rs := [5, 9]) (by kernel_rfl) (by simp) ?_
            refine AllReadyIn.cons rfl (fun K hK => ?_) ?_
            · go_simp
              gi_wp2_with (gi_at_call 38; refine (CallsIn.outOfRound (G1.out _ _)).mono ?_; rintro e w9 ⟨rfl, rfl⟩)
              refine wpAnyIn_ready (rs := [9]) (by kernel_rfl) (by simp) ?_
              refine AllReadyIn.cons rfl (fun K hK => ?_) ?_
              · go_simp
                refine hK _ _ ?_; clear hK K
                refine wpAnyIn_ready (rs := [10]) (by kernel_rfl) (by simp) ?_
                refine AllReadyIn.cons rfl (fun K hK => ?_) ?_
                · go_simp
                  gi_wp2_with (gi_at_call 38; refine (CallsIn.outOfRound (G3.out _ _ _)).mono ?_; rintro e w9 ⟨rfl, rfl⟩)
                  refine wpAnyIn_take (i := 11) (v := ?_) rfl rfl (by kernel_rfl) (by kernel_rfl) (by kernel_rfl) (fun _ _ _ h => h) ⟨Or.inl ⟨by rfl, ?_⟩, fun _ => rfl⟩ ?_
                  case refine_2 => intro w; go_simp; first | done | with_reducible rfl
                  refine wpAnyIn_ready (rs := [12]) (by kernel_rfl) (by simp) ?_
                  refine AllReadyIn.cons rfl (fun K hK => ?_) ?_
                  · go_simp
                    refine hK _ _ ?_; clear hK K
                    refine wpAnyIn_done (by kernel_rfl) ?_ _
                    exact ⟨rfl, _, _, rfl⟩
                  exact AllReadyIn.nil
                exact AllReadyIn.nil
              exact AllReadyIn.nil
            refine AllReadyIn.cons rfl (fun K hK => ?_) ?_
            · go_simp
              refine hK _ _ ?_; clear hK K
              refine wpAnyIn_ready (rs := [5]) (by kernel_rfl) (by simp) ?_
              refine AllReadyIn.cons rfl (fun K hK => ?_) ?_
              · go_simp
                gi_wp2_with (gi_at_call 38; refine (CallsIn.outOfRound (G2.out _ _ _)).mono ?_; rintro e w9 ⟨rfl, rfl⟩)
                refine wpAnyIn_ready (rs := [10]) (by kernel_rfl) (by simp) ?_
                refine AllReadyIn.cons rfl (fun K hK => ?_) ?_
                · go_simp
                  gi_wp2_with (gi_at_call 38; refine (CallsIn.outOfRound (G3.out _ _ _)).mono ?_; rintro e w9 ⟨rfl, rfl⟩)
                  refine wpAnyIn_take (i := 11) (v := ?_) rfl rfl (by kernel_rfl) (by kernel_rfl) (by kernel_rfl) (fun _ _ _ h => h) ⟨Or.inl ⟨by rfl, ?_⟩, fun _ => rfl⟩ ?_
                  case refine_2 => intro w; go_simp; first | done | with_reducible rfl
                  refine wpAnyIn_ready (rs := [12]) (by kernel_rfl) (by simp) ?_
                  refine AllReadyIn.cons rfl (fun K hK => ?_) ?_
                  · go_simp
                    refine hK _ _ ?_; clear hK K
                    refine wpAnyIn_done (by kernel_rfl) ?_ _
                    exact ⟨rfl, _, _, rfl⟩
                  exact AllReadyIn.nil
                exact AllReadyIn.nil
              exact AllReadyIn.nil
            exact AllReadyIn.nil
          refine AllReadyIn.cons rfl (fun K hK => ?_) ?_
          · go_simp
            refine hK _ _ ?_; clear hK K
            refine wpAnyIn_ready (rs := [4]) (by kernel_rfl) (by simp) ?_
            refine AllReadyIn.cons rfl (fun K hK => ?_) ?_
            · go_simp
              refine hK _ _ ?_; clear hK K
              refine wpAnyIn_ready (rs := [5]) (by kernel_rfl) (by simp) ?_
              refine AllReadyIn.cons rfl (fun K hK => ?_) ?_
              · go_simp
                gi_wp2_with (gi_at_call 38; refine (CallsIn.outOfRound (G3.out _ _ _)).mono ?_; rintro e w9 ⟨rfl, rfl⟩)
                refine wpAnyIn_ready (rs := [10]) (by kernel_rfl) (by simp) ?_
                refine AllReadyIn.cons rfl (fun K hK => ?_) ?_
                · go_simp
                  gi_wp2_with (gi_at_call 38; refine (CallsIn.outOfRound (G2.out _ _ _)).mono ?_; rintro e w9 ⟨rfl, rfl⟩)
                  refine wpAnyIn_take (i := 11) (v := ?_) rfl rfl (by kernel_rfl) (by kernel_rfl) (by kernel_rfl) (fun _ _ _ h => h) ⟨Or.inl ⟨by rfl, ?_⟩, fun _ => rfl⟩ ?_
                  case refine_2 => intro w; go_simp; first | done | with_reducible rfl
                  refine wpAnyIn_ready (rs := [12]) (by kernel_rfl) (by simp) ?_
                  refine AllReadyIn.cons rfl (fun K hK => ?_) ?_
                  · go_simp
                    refine hK _ _ ?_; clear hK K
                    refine wpAnyIn_done (by kernel_rfl) ?_ _
                    exact ⟨rfl, _, _, rfl⟩
                  exact AllReadyIn.nil
                exact AllReadyIn.nil
              exact AllReadyIn.nil
            exact AllReadyIn.nil
          exact AllReadyIn.nil
        refine AllReadyIn.cons rfl (fun K hK => ?_) ?_
        · go_simp
          refine hK _ _ ?_; clear hK K
          refine wpAnyIn_ready (rs := [4, 7]) (by kernel_rfl) (by simp) ?_
          refine AllReadyIn.cons rfl (fun K hK => ?_) ?_
          · go_simp
            refine hK _ _ ?_; clear hK K
            refine wpAnyIn_ready (rs := [5, 7]) (by kernel_rfl) (by simp) ?_
            refine AllReadyIn.cons rfl (fun K hK => ?_) ?_
            · go_simp
              gi_wp2_with (gi_at_call 38; refine (CallsIn.outOfRound (G3.out _ _ _)).mono ?_; rintro e w9 ⟨rfl, rfl⟩)
              refine wpAnyIn_ready (rs := [7]) (by kernel_rfl) (by simp) ?_
              refine AllReadyIn.cons rfl (fun K hK => ?_) ?_
              · go_simp
                refine hK _ _ ?_; clear hK K
                refine wpAnyIn_ready (rs := [10]) (by kernel_rfl) (by simp) ?_
                refine AllReadyIn.cons rfl (fun K hK => ?_) ?_
                · go_simp
                  gi_wp2_with (gi_at_call 38; refine (CallsIn.outOfRound (G2.out _ _ _)).mono ?_; rintro e w9 ⟨rfl, rfl⟩)
                  refine wpAnyIn_take (i := 11) (v := ?_) rfl rfl (by kernel_rfl) (by kernel_rfl) (by kernel_rfl) (fun _ _ _ h => h) ⟨Or.inl ⟨by rfl, ?_⟩, fun _ => rfl⟩ ?_
                  case refine_2 => intro w; go_simp; first | done | with_reducible rfl
                  refine wpAnyIn_ready (rs := [12]) (by kernel_rfl) (by simp) ?_
                  refine AllReadyIn.cons rfl (fun K hK => ?_) ?_
                  · go_simp
                    refine hK _ _ ?_; clear hK K
                    refine wpAnyIn_done (by kernel_rfl) ?_ _
                    exact ⟨rfl, _, _, rfl⟩
                  exact AllReadyIn.nil
                exact AllReadyIn.nil
              exact AllReadyIn.nil
            refine AllReadyIn.cons rfl (fun K hK => ?_) ?_
            · go_simp
              refine hK _ _ ?_; clear hK K
              refine wpAnyIn_ready (rs := [5]) (by kernel_rfl) (by simp) ?_
              refine AllReadyIn.cons rfl (fun K hK => ?_) ?_
              · go_simp
                gi_wp2_with (gi_at_call 38; refine (CallsIn.outOfRound (G3.out _ _ _)).mono ?_; rintro e w9 ⟨rfl, rfl⟩)
                refine wpAnyIn_ready (rs := [10]) (by kernel_rfl) (by simp) ?_
                refine AllReadyIn.cons rfl (fun K hK => ?_) ?_
                · go_simp
                  gi_wp2_with (gi_at_call 38; refine (CallsIn.outOfRound (G2.out _ _ _)).mono ?_; rintro e w9 ⟨rfl, rfl⟩)
                  refine wpAnyIn_take (i := 11) (v := ?_) rfl rfl (by kernel_rfl) (by kernel_rfl) (by kernel_rfl) (fun _ _ _ h => h) ⟨Or.inl ⟨by rfl, ?_⟩, fun _ => rfl⟩ ?_
                  case refine_2 => intro w; go_simp; first | done | with_reducible rfl
                  refine wpAnyIn_ready (rs := [12]) (by kernel_rfl) (by simp) ?_
                  refine AllReadyIn.cons rfl (fun K hK => ?_) ?_
                  · go_simp
                    refine hK _ _ ?_; clear hK K
                    refine wpAnyIn_done (by kernel_rfl) ?_ _
                    exact ⟨rfl, _, _, rfl⟩
                  exact AllReadyIn.nil
                exact AllReadyIn.nil
              exact AllReadyIn.nil
            exact AllReadyIn.nil
          refine AllReadyIn.cons rfl (fun K hK => ?_) ?_
          · go_simp
            refine hK _ _ ?_; clear hK K
            refine wpAnyIn_ready (rs := [4]) (by kernel_rfl) (by simp) ?_
            refine AllReadyIn.cons rfl (fun K hK => ?_) ?_
            · go_simp
              refine hK _ _ ?_; clear hK K
              refine wpAnyIn_ready (rs := [5]) (by kernel_rfl) (by simp) ?_
              refine AllReadyIn.cons rfl (fun K hK => ?_) ?_
              · go_simp
                gi_wp2_with (gi_at_call 38; refine (CallsIn.outOfRound (G3.out _ _ _)).mono ?_; rintro e w9 ⟨rfl, rfl⟩)
                refine wpAnyIn_ready (rs := [10]) (by kernel_rfl) (by simp) ?_
                refine AllReadyIn.cons rfl (fun K hK => ?_) ?_
                · go_simp
                  gi_wp2_with (gi_at_call 38; refine (CallsIn.outOfRound (G2.out _ _ _)).mono ?_; rintro e w9 ⟨rfl, rfl⟩)
                  refine wpAnyIn_take (i := 11) (v := ?_) rfl rfl (by kernel_rfl) (by kernel_rfl) (by kernel_rfl) (fun _ _ _ h => h) ⟨Or.inl ⟨by rfl, ?_⟩, fun _ => rfl⟩ ?_
                  case refine_2 => intro w; go_simp; first | done | with_reducible rfl
                  refine wpAnyIn_ready (rs := [12]) (by kernel_rfl) (by simp) ?_
                  refine AllReadyIn.cons rfl (fun K hK => ?_) ?_
                  · go_simp
                    refine hK _ _ ?_; clear hK K
                    refine wpAnyIn_done (by kernel_rfl) ?_ _
                    exact ⟨rfl, _, _, rfl⟩
                  exact AllReadyIn.nil
                exact AllReadyIn.nil
              exact AllReadyIn.nil
            exact AllReadyIn.nil
          exact AllReadyIn.nil
        exact AllReadyIn.nil
      refine AllReadyIn.cons rfl (fun K hK => ?_) ?_
      · go_simp
        refine hK _ _ ?_; clear hK K
        refine wpAnyIn_ready (rs := [1, 7, 9]) (by kernel_rfl) (by simp) ?_
        refine AllReadyIn.cons rfl (fun K hK => ?_) ?_
        · go_simp
          refine hK _ _ ?_; clear hK K
          refine wpAnyIn_ready (rs := [5, 7, 9]) (by kernel_rfl) (by simp) ?_
          refine AllReadyIn.cons rfl (fun K hK => ?_) ?_
          · go_simp
            gi_wp2_with (gi_at_call 38; refine (CallsIn.outOfRound (G1.out _ _)).mono ?_; rintro e w9 ⟨rfl, rfl⟩)
            refine wpAnyIn_ready (rs := [7, 9]) (by kernel_rfl) (by simp) ?_
            refine AllReadyIn.cons rfl (fun K hK => ?_) ?_
            · go_simp
              refine hK _ _ ?_; clear hK K
              refine wpAnyIn_ready (rs := [9]) (by kernel_rfl) (by simp) ?_
              refine AllReadyIn.cons rfl (fun K hK => ?_) ?_
              · go_simp
                refine hK _ _ ?_; clear hK K
                refine wpAnyIn_ready (rs := [10]) (by kernel_rfl) (by simp) ?_
                refine AllReadyIn.cons rfl (fun K hK => ?_) ?_
                · go_simp
                  gi_wp2_with (gi_at_call 38; refine (CallsIn.outOfRound (G3.out _ _ _)).mono ?_; rintro e w9 ⟨rfl, rfl⟩)
                  refine wpAnyIn_take (i := 11) (v := ?_) rfl rfl (by kernel_rfl) (by kernel_rfl) (by kernel_rfl) (fun _ _ _ h => h) ⟨Or.inl ⟨by rfl, ?_⟩, fun _ => rfl⟩ ?_
                  case refine_2 => intro w; go_simp; first | done | with_reducible rfl
                  refine wpAnyIn_ready (rs := [12]) (by kernel_rfl) (by simp) ?_
                  refine AllReadyIn.cons rfl (fun K hK => ?_) ?_
                  · go_simp
                    refine hK _ _ ?_; clear hK K
                    refine wpAnyIn_done (by kernel_rfl) ?_ _
                    exact ⟨rfl, _, _, rfl⟩
                  exact AllReadyIn.nil
                exact AllReadyIn.nil
              exact AllReadyIn.nil
            refine AllReadyIn.cons rfl (fun K hK => ?_) ?_
            · go_simp
              refine hK _ _ ?_; clear hK K
              refine wpAnyIn_ready (rs := [7]) (by kernel_rfl) (by simp) ?_
              refine AllReadyIn.cons rfl (fun K hK => ?_) ?_
              · go_simp
                refine hK _ _ ?_; clear hK K
                refine wpAnyIn_ready (rs := [10]) (by kernel_rfl) (by simp) ?_
                refine AllReadyIn.cons rfl (fun K hK => ?_) ?_
                · go_simp
                  gi_wp2_with (gi_at_call 38; refine (CallsIn.outOfRound (G3.out _ _ _)).mono ?_; rintro e w9 ⟨rfl, rfl⟩)
                  refine wpAnyIn_take (i := 11) (v := ?_) rfl rfl (by kernel_rfl) (by kernel_rfl) (by kernel_rfl) (fun _ _ _ h => h) ⟨Or.inl ⟨by rfl, ?_⟩, fun _ => rfl⟩ ?_
                  case refine_2 => intro w; go_simp; first | done | with_reducible rfl
                  refine wpAnyIn_ready (rs := [12]) (by kernel_rfl) (by simp) ?_
                  refine AllReadyIn.cons rfl (fun K hK => ?_) ?_
                  · go_simp
                    refine hK _ _ ?_; clear hK K
                    refine wpAnyIn_done (by kernel_rfl) ?_ _
                    exact ⟨rfl, _, _, rfl⟩
                  exact AllReadyIn.nil
                exact AllReadyIn.nil
              exact AllReadyIn.nil
            exact AllReadyIn.nil
          refine AllReadyIn.cons rfl (fun K hK => ?_) ?_
          · go_simp
            refine hK _ _ ?_; clear hK K
            refine wpAnyIn_ready (rs := [5, 9]) (by kernel_rfl) (by simp) ?_
            refine AllReadyIn.cons rfl (fun K hK => ?_) ?_
            · go_simp
              gi_wp2_with (gi_at_call 38; refine (CallsIn.outOfRound (G1.out _ _)).mono ?_; rintro e w9 ⟨rfl, rfl⟩)
              refine wpAnyIn_ready (rs := [9]) (by kernel_rfl) (by simp) ?_
              refine AllReadyIn.cons rfl (fun K hK => ?_) ?_
              · go_simp
                refine hK _ _ ?_; clear hK K
                refine wpAnyIn_ready (rs := [10]) (by kernel_rfl) (by simp) ?_
                refine AllReadyIn.cons rfl (fun K hK => ?_) ?_
                · go_simp
                  gi_wp2_with (gi_at_call 38; refine (CallsIn.outOfRound (G3.out _ _ _)).mono ?_; rintro e w9 ⟨rfl, rfl⟩)
                  refine wpAnyIn_take (i := 11) (v := ?_) rfl rfl (by kernel_rfl) (by kernel_rfl) (by kernel_rfl) (fun _ _ _ h => h) ⟨Or.inl ⟨by rfl, ?_⟩, fun _ => rfl⟩ ?_
                  case refine_2 => intro w; go_simp; first | done | with_reducible rfl
                  refine wpAnyIn_ready (rs := [12]) (by kernel_rfl) (by simp) ?_
                  refine AllReadyIn.cons rfl (fun K hK => ?_) ?_
                  · go_simp
                    refine hK _ _ ?_; clear hK K
                    refine wpAnyIn_done (by kernel_rfl) ?_ _
                    exact ⟨rfl, _, _, rfl⟩
                  exact AllReadyIn.nil
                exact AllReadyIn.nil
              exact AllReadyIn.nil
            refine AllReadyIn.cons rfl (fun K hK => ?_) ?_
            · go_simp
              refine hK _ _ ?_; clear hK K
              refine wpAnyIn_ready (rs := [5]) (by kernel_rfl) (by simp) ?_
              refine AllReadyIn.cons rfl (fun K hK => ?_) ?_
              · go_simp
                gi_wp2_with (gi_at_call 38; refine (CallsIn.outOfRound (G2.out _ _ _)).mono ?_; rintro e w9 ⟨rfl, rfl⟩)
                refine wpAnyIn_ready (rs := [10]) (by kernel_rfl) (by simp) ?_
                refine AllReadyIn.cons rfl (fun K hK => ?_) ?_
                · go_simp
                  gi_wp2_with (gi_at_call 38; refine (CallsIn.outOfRound (G3.out _ _ _)).mono ?_; rintro e w9 ⟨rfl, rfl⟩)
                  refine wpAnyIn_take (i := 11) (v := ?_) rfl rfl (by kernel_rfl) (by kernel_rfl) (by kernel_rfl) (fun _ _ _ h => h) ⟨Or.inl ⟨by rfl, ?_⟩, fun _ => rfl⟩ ?_
                  case refine_2 => intro w; go_simp; first | done | with_reducible rfl
                  refine wpAnyIn_ready (rs := [12]) (by kernel_rfl) (by simp) ?_
                  refine AllReadyIn.cons rfl (fun K hK => ?_) ?_
                  · go_simp
                    refine hK _ _ ?_; clear hK K
                    refine wpAnyIn_done (by kernel_rfl) ?_ _
                    exact ⟨rfl, _, _, rfl⟩
                  exact AllReadyIn.nil
                exact AllReadyIn.nil
              exact AllReadyIn.nil
            exact AllReadyIn.nil
          refine AllReadyIn.cons rfl (fun K hK => ?_) ?_
          · go_simp
            refine hK _ _ ?_; clear hK K
            refine wpAnyIn_ready (rs := [5, 7]) (by kernel_rfl) (by simp) ?_
            refine AllReadyIn.cons rfl (fun K hK => ?_) ?_
            · go_simp
              gi_wp2_with (gi_at_call 38; refine (CallsIn.outOfRound (G2.out _ _ _)).mono ?_; rintro e w9 ⟨rfl, rfl⟩)
              refine wpAnyIn_ready (rs := [7]) (by kernel_rfl) (by simp) ?_
              refine AllReadyIn.cons rfl (fun K hK => ?_) ?_
              · go_simp
                refine hK _ _ ?_; clear hK K
                refine wpAnyIn_ready (rs := [10]) (by kernel_rfl) (by simp) ?_
                refine AllReadyIn.cons rfl (fun K hK => ?_) ?_
                · go_simp
                  gi_wp2_with (gi_at_call 38; refine (CallsIn.outOfRound (G3.out _ _ _)).mono ?_; rintro e w9 ⟨rfl, rfl⟩)
                  refine wpAnyIn_take (i := 11) (v := ?_) rfl rfl (by kernel_rfl) (by kernel_rfl) (by kernel_rfl) (fun _ _ _ h => h) ⟨Or.inl ⟨by rfl, ?_⟩, fun _ => rfl⟩ ?_
                  case refine_2 => intro w; go_simp; first | done | with_reducible rfl
                  refine wpAnyIn_ready (rs := [12]) (by kernel_rfl) (by simp) ?_
                  refine AllReadyIn.cons rfl (fun K hK => ?_) ?_
                  · go_simp
                    refine hK _ _ ?_; clear hK K
                    refine wpAnyIn_done (by kernel_rfl) ?_ _
                    exact ⟨rfl, _, _, rfl⟩
                  exact AllReadyIn.nil
                exact AllReadyIn.nil
              exact AllReadyIn.nil
            refine AllReadyIn.cons rfl (fun K hK => ?_) ?_
            · go_simp
              refine hK _ _ ?_; clear hK K
              refine wpAnyIn_ready (rs := [5]) (by kernel_rfl) (by simp) ?_
              refine AllReadyIn.cons rfl (fun K hK => ?_) ?_
              · go_simp
                gi_wp2_with (gi_at_call 38; refine (CallsIn.outOfRound (G2.out _ _ _)).mono ?_; rintro e w9 ⟨rfl, rfl⟩)
                refine wpAnyIn_ready (rs := [10]) (by kernel_rfl) (by simp) ?_
                refine AllReadyIn.cons rfl (fun K hK => ?_) ?_
                · go_simp
                  gi_wp2_with (gi_at_call 38; refine (CallsIn.outOfRound (G3.out _ _ _)).mono ?_; rintro e w9 ⟨rfl, rfl⟩)
                  refine wpAnyIn_take (i := 11) (v := ?_) rfl rfl (by kernel_rfl) (by kernel_rfl) (by kernel_rfl) (fun _ _ _ h => h) ⟨Or.inl ⟨by rfl, ?_⟩, fun _ => rfl⟩ ?_
                  case refine_2 => intro w; go_simp; first | done | with_reducible rfl
                  refine wpAnyIn_ready (rs := [12]) (by kernel_rfl) (by simp) ?_
                  refine AllReadyIn.cons rfl (fun K hK => ?_) ?_
                  · go_simp
                    refine hK _ _ ?_; clear hK K
                    refine wpAnyIn_done (by kernel_rfl) ?_ _
                    exact ⟨rfl, _, _, rfl⟩
                  exact AllReadyIn.nil
                exact AllReadyIn.nil
              exact AllReadyIn.nil
            exact AllReadyIn.nil
          exact AllReadyIn.nil
        refine AllReadyIn.cons rfl (fun K hK => ?_) ?_
        · go_simp
          refine hK _ _ ?_; clear hK K
          refine wpAnyIn_ready (rs := [1, 9]) (by kernel_rfl) (by simp) ?_
          refine AllReadyIn.cons rfl (fun K hK => ?_) ?_
          · go_simp
            refine hK _ _ ?_; clear hK K
            refine wpAnyIn_ready (rs := [5, 9]) (by kernel_rfl) (by simp) ?_
            refine AllReadyIn.cons rfl (fun K hK => ?_) ?_
            · go_simp
              gi_wp2_with (gi_at_call 38; refine (CallsIn.outOfRound (G1.out _ _)).mono ?_; rintro e w9 ⟨rfl, rfl⟩)
              refine wpAnyIn_ready (rs := [9]) (by kernel_rfl) (by simp) ?_
              refine AllReadyIn.cons rfl (fun K hK => ?_) ?_
              · go_simp
                refine hK _ _ ?_; clear hK K
                refine wpAnyIn_ready (rs := [10]) (by kernel_rfl) (by simp) ?_
                refine AllReadyIn.cons rfl (fun K hK => ?_) ?_
                · go_simp
                  gi_wp2_with (gi_at_call 38; refine (CallsIn.outOfRound (G3.out _ _ _)).mono ?_; rintro e w9 ⟨rfl, rfl⟩)
                  refine wpAnyIn_take (i := 11) (v := ?_) rfl rfl (by kernel_rfl) (by kernel_rfl) (by kernel_rfl) (fun _ _ _ h => h) ⟨Or.inl ⟨by rfl, ?_⟩, fun _ => rfl⟩ ?_
                  case refine_2 => intro w; go_simp; first | done | with_reducible rfl
                  refine wpAnyIn_ready (rs := [12]) (by kernel_rfl) (by simp) ?_
                  refine AllReadyIn.cons rfl (fun K hK => ?_) ?_
                  · go_simp
                    refine hK _ _ ?_; clear hK K
                    refine wpAnyIn_done (by kernel_rfl) ?_ _
                    exact ⟨rfl, _, _, rfl⟩
                  exact AllReadyIn.nil
                exact AllReadyIn.nil
              exact AllReadyIn.nil
            refine AllReadyIn.cons rfl (fun K hK => ?_) ?_
            · go_simp
              refine hK _ _ ?_; clear hK K
              refine wpAnyIn_ready (rs := [5]) (by kernel_rfl) (by simp) ?_
              refine AllReadyIn.cons rfl (fun K hK => ?_) ?_
              · go_simp
                gi_wp2_with (gi_at_call 38; refine (CallsIn.outOfRound (G2.out _ _ _)).mono ?_; rintro e w9 ⟨rfl, rfl⟩)
                refine wpAnyIn_ready (rs := [10]) (by kernel_rfl) (by simp) ?_
                refine AllReadyIn.cons rfl (fun K hK => ?_) ?_
                · go_simp
                  gi_wp2_with (gi_at_call 38; refine (CallsIn.outOfRound (G3.out _ _ _)).mono ?_; rintro e w9 ⟨rfl, rfl⟩)
                  refine wpAnyIn_take (i := 11) (v := ?_) rfl rfl (by kernel_rfl) (by kernel_rfl) (by kernel_rfl) (fun _ _ _ h => h) ⟨Or.inl ⟨by rfl, ?_⟩, fun _ => rfl⟩ ?_
                  case refine_2 => intro w; go_simp; first | done | with_reducible rfl
                  refine wpAnyIn_ready (rs := [12]) (by kernel_rfl) (by simp) ?_
                  refine AllReadyIn.cons rfl (fun K hK => ?_) ?_
                  · go_simp
                    refine hK _ _ ?_; clear hK K
                    refine wpAnyIn_done (by kernel_rfl) ?_ _
                    exact ⟨rfl, _, _, rfl⟩
                  exact AllReadyIn.nil
                exact AllReadyIn.nil
              exact AllReadyIn.nil
            exact AllReadyIn.nil
          refine AllReadyIn.cons rfl (fun K hK => ?_) ?_
          · go_simp
            refine hK _ _ ?_; clear hK K
            refine wpAnyIn_ready (rs := [1]) (by kernel_rfl) (by simp) ?_
            refine AllReadyIn.cons rfl (fun K hK => ?_) ?_
            · go_simp
              refine hK _ _ ?_; clear hK K
              refine wpAnyIn_ready (rs := [5]) (by kernel_rfl) (by simp) ?_
              refine AllReadyIn.cons rfl (fun K hK => ?_) ?_
              · go_simp
                gi_wp2_with (gi_at_call 38; refine (CallsIn.outOfRound (G2.out _ _ _)).mono ?_; rintro e w9 ⟨rfl, rfl⟩)
                refine wpAnyIn_ready (rs := [10]) (by kernel_rfl) (by simp) ?_
                refine AllReadyIn.cons rfl (fun K hK => ?_) ?_
                · go_simp
                  gi_wp2_with (gi_at_call 38; refine (CallsIn.outOfRound (G3.out _ _ _)).mono ?_; rintro e w9 ⟨rfl, rfl⟩)
                  refine wpAnyIn_take (i := 11) (v := ?_) rfl rfl (by kernel_rfl) (by kernel_rfl) (by kernel_rfl) (fun _ _ _ h => h) ⟨Or.inl ⟨by rfl, ?_⟩, fun _ => rfl⟩ ?_
                  case refine_2 => intro w; go_simp; first | done | with_reducible rfl
                  refine wpAnyIn_ready (rs := [12]) (by kernel_rfl) (by simp) ?_
                  refine AllReadyIn.cons rfl (fun K hK => ?_) ?_
                  · go_simp
                    refine hK _ _ ?_; clear hK K
                    refine wpAnyIn_done (by kernel_rfl) ?_ _
                    exact ⟨rfl, _, _, rfl⟩
                  exact AllReadyIn.nil
                exact AllReadyIn.nil
              exact AllReadyIn.nil
            exact AllReadyIn.nil
          exact AllReadyIn.nil
        refine AllReadyIn.cons rfl (fun K hK => ?_) ?_
        · go_simp
          refine hK _ _ ?_; clear hK K
          refine wpAnyIn_ready (rs := [1, 7]) (by kernel_rfl) (by simp) ?_
          refine AllReadyIn.cons rfl (fun K hK => ?_) ?_
          · go_simp
            refine hK _ _ ?_; clear hK K
            refine wpAnyIn_ready (rs := [5, 7]) (by kernel_rfl) (by simp) ?_
            refine AllReadyIn.cons rfl (fun K hK => ?_) ?_
            · go_simp
              gi_wp2_with (gi_at_call 38; refine (CallsIn.outOfRound (G2.out _ _ _)).mono ?_; rintro e w9 ⟨rfl, rfl⟩)
              refine wpAnyIn_ready (rs := [7]) (by kernel_rfl) (by simp) ?_
              refine AllReadyIn.cons rfl (fun K hK => ?_) ?_
              · go_simp
                refine hK _ _ ?_; clear hK K
                refine wpAnyIn_ready (rs := [10]) (by kernel_rfl) (by simp) ?_
                refine AllReadyIn.cons rfl (fun K hK => ?_) ?_
                · go_simp
                  gi_wp2_with (gi_at_call 38; refine (CallsIn.outOfRound (G3.out _ _ _)).mono ?_; rintro e w9 ⟨rfl, rfl⟩)
                  refine wpAnyIn_take (i := 11) (v := ?_) rfl rfl (by kernel_rfl) (by kernel_rfl) (by kernel_rfl) (fun _ _ _ h => h) ⟨Or.inl ⟨by rfl, ?_⟩, fun _ => rfl⟩ ?_
                  case refine_2 => intro w; go_simp; first | done | with_reducible rfl
                  refine wpAnyIn_ready (rs := [12]) (by kernel_rfl) (by simp) ?_
                  refine AllReadyIn.cons rfl (fun K hK => ?_) ?_
                  · go_simp
                    refine hK _ _ ?_; clear hK K
                    refine wpAnyIn_done (by kernel_rfl) ?_ _
                    exact ⟨rfl, _, _, rfl⟩
                  exact AllReadyIn.nil
                exact AllReadyIn.nil
              exact AllReadyIn.nil
            refine AllReadyIn.cons rfl (fun K hK => ?_) ?_
            · go_simp
              refine hK _ _ ?_; clear hK K
              refine wpAnyIn_ready (rs := [5]) (by kernel_rfl) (by simp) ?_
              refine AllReadyIn.cons rfl (fun K hK => ?_) ?_
              · go_simp
                gi_wp2_with (gi_at_call 38; refine (CallsIn.outOfRound (G2.out _ _ _)).mono ?_; rintro e w9 ⟨rfl, rfl⟩)
                refine wpAnyIn_ready (rs := [10]) (by kernel_rfl) (by simp) ?_
                refine AllReadyIn.cons rfl (fun K hK => ?_) ?_
                · go_simp
                  gi_wp2_with (gi_at_call 38; refine (CallsIn.outOfRound (G3.out _ _ _)).mono ?_; rintro e w9 ⟨rfl, rfl⟩)
                  refine wpAnyIn_take (i := 11) (v := ?_) rfl rfl (by kernel_rfl) (by kernel_rfl) (by kernel_rfl) (fun _ _ _ h => h) ⟨Or.inl ⟨by rfl, ?_⟩, fun _ => rfl⟩ ?_
                  case refine_2 => intro w; go_simp; first | done | with_reducible rfl
                  refine wpAnyIn_ready (rs := [12]) (by kernel_rfl) (by simp) ?_
                  refine AllReadyIn.cons rfl (fun K hK => ?_) ?_
                  · go_simp
                    refine hK _ _ ?_; clear hK K
                    refine wpAnyIn_done (by kernel_rfl) ?_ _
                    exact ⟨rfl, _, _, rfl⟩
                  exact AllReadyIn.nil
                exact AllReadyIn.nil
              exact AllReadyIn.nil
            exact AllReadyIn.nil
          refine AllReadyIn.cons rfl (fun K hK => ?_) ?_
          · go_simp
            refine hK _ _ ?_; clear hK K
            refine wpAnyIn_ready (rs := [1]) (by kernel_rfl) (by simp) ?_
            refine AllReadyIn.cons rfl (fun K hK => ?_) ?_
            · go_simp
              refine hK _ _ ?_; clear hK K
              refine wpAnyIn_ready (rs := [5]) (by kernel_rfl) (by simp) ?_
              refine AllReadyIn.cons rfl (fun K hK => ?_) ?_
              · go_simp
                gi_wp2_with (gi_at_call 38; refine (CallsIn.outOfRound (G2.out _ _ _)).mono ?_; rintro e w9 ⟨rfl, rfl⟩)
                refine wpAnyIn_ready (rs := [10]) (by kernel_rfl) (by simp) ?_
                refine AllReadyIn.cons rfl (fun K hK => ?_) ?_
                · go_simp
                  gi_wp2_with (gi_at_call 38; refine (CallsIn.outOfRound (G3.out _ _ _)).mono ?_; rintro e w9 ⟨rfl, rfl⟩)
                  refine wpAnyIn_take (i := 11) (v := ?_) rfl rfl (by kernel_rfl) (by kernel_rfl) (by kernel_rfl) (fun _ _ _ h => h) ⟨Or.inl ⟨by rfl, ?_⟩, fun _ => rfl⟩ ?_
                  case refine_2 => intro w; go_simp; first | done | with_reducible rfl
                  refine wpAnyIn_ready (rs := [12]) (by kernel_rfl) (by simp) ?_
                  refine AllReadyIn.cons rfl (fun K hK => ?_) ?_
                  · go_simp
                    refine hK _ _ ?_; clear hK K
                    refine wpAnyIn_done (by kernel_rfl) ?_ _
                    exact ⟨rfl, _, _, rfl⟩
                  exact AllReadyIn.nil
                exact AllReadyIn.nil
              exact AllReadyIn.nil
            exact AllReadyIn.nil
          exact AllReadyIn.nil
        exact AllReadyIn.nil
      refine AllReadyIn.cons rfl (fun K hK => ?_) ?_
      · go_simp
        refine hK _ _ ?_; clear hK K
        refine wpAnyIn_ready (rs := [1, 4, 9]) (by kernel_rfl) (by simp) ?_
        refine AllReadyIn.cons rfl (fun K hK => ?_) ?_
        · go_simp
          refine hK _ _ ?_; clear hK K
          refine wpAnyIn_ready (rs := [4, 9]) (by kernel_rfl) (by simp) ?_
          refine AllReadyIn.cons rfl (fun K hK => ?_) ?_
          · go_simp
            refine hK _ _ ?_; clear hK K
            refine wpAnyIn_ready (rs := [5, 9]) (by kernel_rfl) (by simp) ?_
            refine AllReadyIn.cons rfl (fun K hK => ?_) ?_
            · go_simp
              gi_wp2_with (gi_at_call 38; refine (CallsIn.outOfRound (G1.out _ _)).mono ?_; rintro e w9 ⟨rfl, rfl⟩)
              refine wpAnyIn_ready (rs := [9]) (by kernel_rfl) (by simp) ?_
              refine AllReadyIn.cons rfl (fun K hK => ?_) ?_
              · go_simp
                refine hK _ _ ?_; clear hK K
                refine wpAnyIn_ready (rs := [10]) (by kernel_rfl) (by simp) ?_
                refine AllReadyIn.cons rfl (fun K hK => ?_) ?_
                · go_simp
                  gi_wp2_with (gi_at_call 38; refine (CallsIn.outOfRound (G3.out _ _ _)).mono ?_; rintro e w9 ⟨rfl, rfl⟩)
                  refine wpAnyIn_take (i := 11) (v := ?_) rfl rfl (by kernel_rfl) (by kernel_rfl) (by kernel_rfl) (fun _ _ _ h => h) ⟨Or.inl ⟨by rfl, ?_⟩, fun _ => rfl⟩ ?_
                  case refine_2 => intro w; go_simp; first | done | with_reducible rfl
                  refine wpAnyIn_ready (rs := [12]) (by kernel_rfl) (by simp) ?_
                  refine AllReadyIn.cons rfl (fun K hK => ?_) ?_
                  · go_simp
                    refine hK _ _ ?_; clear hK K
                    refine wpAnyIn_done (by kernel_rfl) ?_ _
                    exact ⟨rfl, _, _, rfl⟩
                  exact AllReadyIn.nil
                exact AllReadyIn.nil
              exact AllReadyIn.nil
            refine AllReadyIn.cons rfl (fun K hK => ?_) ?_
            · go_simp
              refine hK _ _ ?_; clear hK K
              refine wpAnyIn_ready (rs := [5]) (by kernel_rfl) (by simp) ?_
              refine AllReadyIn.cons rfl (fun K hK => ?_) ?_
              · go_simp
                gi_wp2_with (gi_at_call 38; refine (CallsIn.outOfRound (G2.out _ _ _)).mono ?_; rintro e w9 ⟨rfl, rfl⟩)
                refine wpAnyIn_ready (rs := [10]) (by kernel_rfl) (by simp) ?_
                refine AllReadyIn.cons rfl (fun K hK => ?_) ?_
                · go_simp
                  gi_wp2_with (gi_at_call 38; refine (CallsIn.outOfRound (G3.out _ _ _)).mono ?_; rintro e w9 ⟨rfl, rfl⟩)
                  refine wpAnyIn_take (i := 11) (v := ?_) rfl rfl (by kernel_rfl) (by kernel_rfl) (by kernel_rfl) (fun _ _ _ h => h) ⟨Or.inl ⟨by rfl, ?_⟩, fun _ => rfl⟩ ?_
                  case refine_2 => intro w; go_simp; first | done | with_reducible rfl
                  refine wpAnyIn_ready (rs := [12]) (by kernel_rfl) (by simp) ?_
                  refine AllReadyIn.cons rfl (fun K hK => ?_) ?_
                  · go_simp
                    refine hK _ _ ?_; clear hK K
                    refine wpAnyIn_done (by kernel_rfl) ?_ _
                    exact ⟨rfl, _, _, rfl⟩
                  exact AllReadyIn.nil
                exact AllReadyIn.nil
              exact AllReadyIn.nil
            exact AllReadyIn.nil
          refine AllReadyIn.cons rfl (fun K hK => ?_) ?_
          · go_simp
            refine hK _ _ ?_; clear hK K
            refine wpAnyIn_ready (rs := [4]) (by kernel_rfl) (by simp) ?_
            refine AllReadyIn.cons rfl (fun K hK => ?_) ?_
            · go_simp
              refine hK _ _ ?_; clear hK K
              refine wpAnyIn_ready (rs := [5]) (by kernel_rfl) (by simp) ?_
              refine AllReadyIn.cons rfl (fun K hK => ?_) ?_
              · go_simp
                gi_wp2_with (gi_at_call 38; refine (CallsIn.outOfRound (G3.out _ _ _)).mono ?_; rintro e w9 ⟨rfl, rfl⟩)
                refine wpAnyIn_ready (rs := [10]) (by kernel_rfl) (by simp) ?_
                refine AllReadyIn.cons rfl (fun K hK => ?_) ?_
                · go_simp
                  gi_wp2_with (gi_at_call 38; refine (CallsIn.outOfRound (G2.out _ _ _)).mono ?_; rintro e w9 ⟨rfl, rfl⟩)
                  refine wpAnyIn_take (i := 11) (v := ?_) rfl rfl (by kernel_rfl) (by kernel_rfl) (by kernel_rfl) (fun _ _ _ h => h) ⟨Or.inl ⟨by rfl, ?_⟩, fun _ => rfl⟩ ?_
                  case refine_2 => intro w; go_simp; first | done | with_reducible rfl
                  refine wpAnyIn_ready (rs := [12]) (by kernel_rfl) (by simp) ?_
                  refine AllReadyIn.cons rfl (fun K hK => ?_) ?_
                  · go_simp
                    refine hK _ _ ?_; clear hK K
                    refine wpAnyIn_done (by kernel_rfl) ?_ _
                    exact ⟨rfl, _, _, rfl⟩
                  exact AllReadyIn.nil
                exact AllReadyIn.nil
              exact AllReadyIn.nil
            exact AllReadyIn.nil
          exact AllReadyIn.nil
        refine AllReadyIn.cons rfl (fun K hK => ?_) ?_
        · go_simp
          refine hK _ _ ?_; clear hK K
          refine wpAnyIn_ready (rs := [1, 9]) (by kernel_rfl) (by simp) ?_
          refine AllReadyIn.cons rfl (fun K hK => ?_) ?_
          · go_simp
            refine hK _ _ ?_; clear hK K
            refine wpAnyIn_ready (rs := [5, 9]) (by kernel_rfl) (by simp) ?_
            refine AllReadyIn.cons rfl (fun K hK => ?_) ?_
            · go_simp
              gi_wp2_with (gi_at_call 38; refine (CallsIn.outOfRound (G1.out _ _)).mono ?_; rintro e w9 ⟨rfl, rfl⟩)
              refine wpAnyIn_ready (rs := [9]) (by kernel_rfl) (by simp) ?_
              refine AllReadyIn.cons rfl (fun K hK => ?_) ?_
              · go_simp
                refine hK _ _ ?_; clear hK K
                refine wpAnyIn_ready (rs := [10]) (by kernel_rfl) (by simp) ?_
                refine AllReadyIn.cons rfl (fun K hK => ?_) ?_
                · go_simp
                  gi_wp2_with (gi_at_call 38; refine (CallsIn.outOfRound (G3.out _ _ _)).mono ?_; rintro e w9 ⟨rfl, rfl⟩)
                  refine wpAnyIn_take (i := 11) (v := ?_) rfl rfl (by kernel_rfl) (by kernel_rfl) (by kernel_rfl) (fun _ _ _ h => h) ⟨Or.inl ⟨by rfl, ?_⟩, fun _ => rfl⟩ ?_
                  case refine_2 => intro w; go_simp; first | done | with_reducible rfl
                  refine wpAnyIn_ready (rs := [12]) (by kernel_rfl) (by simp) ?_
                  refine AllReadyIn.cons rfl (fun K hK => ?_) ?_
                  · go_simp
                    refine hK _ _ ?_; clear hK K
                    refine wpAnyIn_done (by kernel_rfl) ?_ _
                    exact ⟨rfl, _, _, rfl⟩
                  exact AllReadyIn.nil
                exact AllReadyIn.nil
              exact AllReadyIn.nil
            refine AllReadyIn.cons rfl (fun K hK => ?_) ?_
            · go_simp
              refine hK _ _ ?_; clear hK K
              refine wpAnyIn_ready (rs := [5]) (by kernel_rfl) (by simp) ?_
              refine AllReadyIn.cons rfl (fun K hK => ?_) ?_
              · go_simp
                gi_wp2_with (gi_at_call 38; refine (CallsIn.outOfRound (G2.out _ _ _)).mono ?_; rintro e w9 ⟨rfl, rfl⟩)
                refine wpAnyIn_ready (rs := [10]) (by kernel_rfl) (by simp) ?_
                refine AllReadyIn.cons rfl (fun K hK => ?_) ?_
                · go_simp
                  gi_wp2_with (gi_at_call 38; refine (CallsIn.outOfRound (G3.out _ _ _)).mono ?_; rintro e w9 ⟨rfl, rfl⟩)
                  refine wpAnyIn_take (i := 11) (v := ?_) rfl rfl (by kernel_rfl) (by kernel_rfl) (by kernel_rfl) (fun _ _ _ h => h) ⟨Or.inl ⟨by rfl, ?_⟩, fun _ => rfl⟩ ?_
                  case refine_2 => intro w; go_simp; first | done | with_reducible rfl
                  refine wpAnyIn_ready (rs := [12]) (by kernel_rfl) (by simp) ?_
                  refine AllReadyIn.cons rfl (fun K hK => ?_) ?_
                  · go_simp
                    refine hK _ _ ?_; clear hK K
                    refine wpAnyIn_done (by kernel_rfl) ?_ _
                    exact ⟨rfl, _, _, rfl⟩
                  exact AllReadyIn.nil
                exact AllReadyIn.nil
              exact AllReadyIn.nil
            exact AllReadyIn.nil
          refine AllReadyIn.cons rfl (fun K hK => ?_) ?_
          · go_simp
            refine hK _ _ ?_; clear hK K
            refine wpAnyIn_ready (rs := [1]) (by kernel_rfl) (by simp) ?_
            refine AllReadyIn.cons rfl (fun K hK => ?_) ?_
            · go_simp
              refine hK _ _ ?_; clear hK K
              refine wpAnyIn_ready (rs := [5]) (by kernel_rfl) (by simp) ?_
              refine AllReadyIn.cons rfl (fun K hK => ?_) ?_
              · go_simp
                gi_wp2_with (gi_at_call 38; refine (CallsIn.outOfRound (G2.out _ _ _)).mono ?_; rintro e w9 ⟨rfl, rfl⟩)
                refine wpAnyIn_ready (rs := [10]) (by kernel_rfl) (by simp) ?_
                refine AllReadyIn.cons rfl (fun K hK => ?_) ?_
                · go_simp
                  gi_wp2_with (gi_at_call 38; refine (CallsIn.outOfRound (G3.out _ _ _)).mono ?_; rintro e w9 ⟨rfl, rfl⟩)
                  refine wpAnyIn_take (i := 11) (v := ?_) rfl rfl (by kernel_rfl) (by kernel_rfl) (by kernel_rfl) (fun _ _ _ h => h) ⟨Or.inl ⟨by rfl, ?_⟩, fun _ => rfl⟩ ?_
                  case refine_2 => intro w; go_simp; first | done | with_reducible rfl
                  refine wpAnyIn_ready (rs := [12]) (by kernel_rfl) (by simp) ?_
                  refine AllReadyIn.cons rfl (fun K hK => ?_) ?_
                  · go_simp
                    refine hK _ _ ?_; clear hK K
                    refine wpAnyIn_done (by kernel_rfl) ?_ _
                    exact ⟨rfl, _, _, rfl⟩
                  exact AllReadyIn.nil
                exact AllReadyIn.nil
              exact AllReadyIn.nil
            exact AllReadyIn.nil
          exact AllReadyIn.nil
        refine AllReadyIn.cons rfl (fun K hK => ?_) ?_
        · go_simp
          refine hK _ _ ?_; clear hK K
          refine wpAnyIn_ready (rs := [1, 4]) (by kernel_rfl) (by simp) ?_
          refine AllReadyIn.cons rfl (fun K hK => ?_) ?_
          · go_simp
            refine hK _ _ ?_; clear hK K
            refine wpAnyIn_ready (rs := [4]) (by kernel_rfl) (by simp) ?_
            refine AllReadyIn.cons rfl (fun K hK => ?_) ?_
            · go_simp
              refine hK _ _ ?_; clear hK K
              refine wpAnyIn_ready (rs := [5]) (by kernel_rfl) (by simp) ?_
              refine AllReadyIn.cons rfl (fun K hK => ?_) ?_
              · go_simp
                gi_wp2_with (gi_at_call 38; refine (CallsIn.outOfRound (G3.out _ _ _)).mono ?_; rintro e w9 ⟨rfl, rfl⟩)
                refine wpAnyIn_ready (rs := [10]) (by kernel_rfl) (by simp) ?_
                refine AllReadyIn.cons rfl (fun K hK => ?_) ?_
                · go_simp
                  gi_wp2_with (gi_at_call 38; refine (CallsIn.outOfRound (G2.out _ _ _)).mono ?_; rintro e w9 ⟨rfl, rfl⟩)
                  refine wpAnyIn_take (i := 11) (v := ?_) rfl rfl (by kernel_rfl) (by kernel_rfl) (by kernel_rfl) (fun _ _ _ h => h) ⟨Or.inl ⟨by rfl, ?_⟩, fun _ => rfl⟩ ?_
                  case refine_2 => intro w; go_simp; first | done | with_reducible rfl
                  refine wpAnyIn_ready (rs := [12]) (by kernel_rfl) (by simp) ?_
                  refine AllReadyIn.cons rfl (fun K hK => ?_) ?_
                  · go_simp
                    refine hK _ _ ?_; clear hK K
                    refine wpAnyIn_done (by kernel_rfl) ?_ _
                    exact ⟨rfl, _, _, rfl⟩
                  exact AllReadyIn.nil
                exact AllReadyIn.nil
              exact AllReadyIn.nil
            exact AllReadyIn.nil
          refine AllReadyIn.cons rfl (fun K hK => ?_) ?_
          · go_simp
            refine hK _ _ ?_; clear hK K
            refine wpAnyIn_ready (rs := [1]) (by kernel_rfl) (by simp) ?_
            refine AllReadyIn.cons rfl (fun K hK => ?_) ?_
            · go_simp
              refine hK _ _ ?_; clear hK K
              refine wpAnyIn_ready (rs := [5]) (by kernel_rfl) (by simp) ?_
              refine AllReadyIn.cons rfl (fun K hK => ?_) ?_
              · go_simp
                gi_wp2_with (gi_at_call 38; refine (CallsIn.outOfRound (G3.out _ _ _)).mono ?_; rintro e w9 ⟨rfl, rfl⟩)
                refine wpAnyIn_ready (rs := [10]) (by kernel_rfl) (by simp) ?_
                refine AllReadyIn.cons rfl (fun K hK => ?_) ?_
                · go_simp
                  gi_wp2_with (gi_at_call 38; refine (CallsIn.outOfRound (G2.out _ _ _)).mono ?_; rintro e w9 ⟨rfl, rfl⟩)
                  refine wpAnyIn_take (i := 11) (v := ?_) rfl rfl (by kernel_rfl) (by kernel_rfl) (by kernel_rfl) (fun _ _ _ h => h) ⟨Or.inl ⟨by rfl, ?_⟩, fun _ => rfl⟩ ?_
                  case refine_2 => intro w; go_simp; first | done | with_reducible rfl
                  refine wpAnyIn_ready (rs := [12]) (by kernel_rfl) (by simp) ?_
                  refine AllReadyIn.cons rfl (fun K hK => ?_) ?_
                  · go_simp
                    refine hK _ _ ?_; clear hK K
                    refine wpAnyIn_done (by kernel_rfl) ?_ _
                    exact ⟨rfl, _, _, rfl⟩
                  exact AllReadyIn.nil
                exact AllReadyIn.nil
              exact AllReadyIn.nil
            exact AllReadyIn.nil
          exact AllReadyIn.nil
        exact AllReadyIn.nil
      refine AllReadyIn.cons rfl (fun K hK => ?_) ?_
      · go_simp
        refine hK _ _ ?_; clear hK K
        refine wpAnyIn_ready (rs := [1, 4, 7]) (by kernel_rfl) (by simp) ?_
        refine AllReadyIn.cons rfl (fun K hK => ?_) ?_
        · go_simp
          refine hK _ _ ?_; clear hK K
          refine wpAnyIn_ready (rs := [4, 7]) (by kernel_rfl) (by simp) ?_
          refine AllReadyIn.cons rfl (fun K hK => ?_) ?_
          · go_simp
            refine hK _ _ ?_; clear hK K
            refine wpAnyIn_ready (rs := [5, 7]) (by kernel_rfl) (by simp) ?_
            refine AllReadyIn.cons rfl (fun K hK => ?_) ?_
            · go_simp
              gi_wp2_with (gi_at_call 38; refine (CallsIn.outOfRound (G3.out _ _ _)).mono ?_; rintro e w9 ⟨rfl, rfl⟩)
              refine wpAnyIn_ready (rs := [7]) (by kernel_rfl) (by simp) ?_
              refine AllReadyIn.cons rfl (fun K hK => ?_) ?_
              · go_simp
                refine hK _ _ ?_; clear hK K
                refine wpAnyIn_ready (rs := [10]) (by kernel_rfl) (by simp) ?_
                refine AllReadyIn.cons rfl (fun K hK => ?_) ?_
                · go_simp
                  gi_wp2_with (gi_at_call 38; refine (CallsIn.outOfRound (G2.out _ _ _)).mono ?_; rintro e w9 ⟨rfl, rfl⟩)
                  refine wpAnyIn_take (i := 11) (v := ?_) rfl rfl (by kernel_rfl) (by kernel_rfl) (by kernel_rfl) (fun _ _ _ h => h) ⟨Or.inl ⟨by rfl, ?_⟩, fun _ => rfl⟩ ?_
                  case refine_2 => intro w; go_simp; first | done | with_reducible rfl
                  refine wpAnyIn_ready (rs := [12]) (by kernel_rfl) (by simp) ?_
                  refine AllReadyIn.cons rfl (fun K hK => ?_) ?_
                  · go_simp
                    refine hK _ _ ?_; clear hK K
                    refine wpAnyIn_done (by kernel_rfl) ?_ _
                    exact ⟨rfl, _, _, rfl⟩
                  exact AllReadyIn.nil
                exact AllReadyIn.nil
              exact AllReadyIn.nil
            refine AllReadyIn.cons rfl (fun K hK => ?_) ?_
            · go_simp
              refine hK _ _ ?_; clear hK K
              refine wpAnyIn_ready (rs := [5]) (by kernel_rfl) (by simp) ?_
              refine AllReadyIn.cons rfl (fun K hK => ?_) ?_
              · go_simp
                gi_wp2_with (gi_at_call 38; refine (CallsIn.outOfRound (G3.out _ _ _)).mono ?_; rintro e w9 ⟨rfl, rfl⟩)
                refine wpAnyIn_ready (rs := [10]) (by kernel_rfl) (by simp) ?_
                refine AllReadyIn.cons rfl (fun K hK => ?_) ?_
                · go_simp
                  gi_wp2_with (gi_at_call 38; refine (CallsIn.outOfRound (G2.out _ _ _)).mono ?_; rintro e w9 ⟨rfl, rfl⟩)
                  refine wpAnyIn_take (i := 11) (v := ?_) rfl rfl (by kernel_rfl) (by kernel_rfl) (by kernel_rfl) (fun _ _ _ h => h) ⟨Or.inl ⟨by rfl, ?_⟩, fun _ => rfl⟩ ?_
                  case refine_2 => intro w; go_simp; first | done | with_reducible rfl
                  refine wpAnyIn_ready (rs := [12]) (by kernel_rfl) (by simp) ?_
                  refine AllReadyIn.cons rfl (fun K hK => ?_) ?_
                  · go_simp
                    refine hK _ _ ?_; clear hK K
                    refine wpAnyIn_done (by kernel_rfl) ?_ _
                    exact ⟨rfl, _, _, rfl⟩
                  exact AllReadyIn.nil
                exact AllReadyIn.nil
              exact AllReadyIn.nil
            exact AllReadyIn.nil
          refine AllReadyIn.cons rfl (fun K hK => ?_) ?_
          · go_simp
            refine hK _ _ ?_; clear hK K
            refine wpAnyIn_ready (rs := [4]) (by kernel_rfl) (by simp) ?_
            refine AllReadyIn.cons rfl (fun K hK => ?_) ?_
            · go_simp
              refine hK _ _ ?_; clear hK K
              refine wpAnyIn_ready (rs := [5]) (by kernel_rfl) (by simp) ?_
              refine AllReadyIn.cons rfl (fun K hK => ?_) ?_
              · go_simp
                gi_wp2_with (gi_at_call 38; refine (CallsIn.outOfRound (G3.out _ _ _)).mono ?_; rintro e w9 ⟨rfl, rfl⟩)
                refine wpAnyIn_ready (rs := [10]) (by kernel_rfl) (by simp) ?_
                refine AllReadyIn.cons rfl (fun K hK => ?_) ?_
                · go_simp
                  gi_wp2_with (gi_at_call 38; refine (CallsIn.outOfRound (G2.out _ _ _)).mono ?_; rintro e w9 ⟨rfl, rfl⟩)
                  refine wpAnyIn_take (i := 11) (v := ?_) rfl rfl (by kernel_rfl) (by kernel_rfl) (by kernel_rfl) (fun _ _ _ h => h) ⟨Or.inl ⟨by rfl, ?_⟩, fun _ => rfl⟩ ?_
                  case refine_2 => intro w; go_simp; first | done | with_reducible rfl
                  refine wpAnyIn_ready (rs := [12]) (by kernel_rfl) (by simp) ?_
                  refine AllReadyIn.cons rfl (fun K hK => ?_) ?_
                  · go_simp
                    refine hK _ _ ?_; clear hK K
                    refine wpAnyIn_done (by kernel_rfl) ?_ _
                    exact ⟨rfl, _, _, rfl⟩
                  exact AllReadyIn.nil
                exact AllReadyIn.nil
              exact AllReadyIn.nil
            exact AllReadyIn.nil
          exact AllReadyIn.nil
        refine AllReadyIn.cons rfl (fun K hK => ?_) ?_
        · go_simp
          refine hK _ _ ?_; clear hK K
          refine wpAnyIn_ready (rs := [1, 7]) (by kernel_rfl) (by simp) ?_
          refine AllReadyIn.cons rfl (fun K hK => ?_) ?_
          · go_simp
            refine hK _ _ ?_; clear hK K
            refine wpAnyIn_ready (rs := [5, 7]) (by kernel_rfl) (by simp) ?_
            refine AllReadyIn.cons rfl (fun K hK => ?_) ?_
            · go_simp
              gi_wp2_with (gi_at_call 38; refine (CallsIn.outOfRound (G3.out _ _ _)).mono ?_; rintro e w9 ⟨rfl, rfl⟩)
              refine wpAnyIn_ready (rs := [7]) (by kernel_rfl) (by simp) ?_
              refine AllReadyIn.cons rfl (fun K hK => ?_) ?_
              · go_simp
                refine hK _ _ ?_; clear hK K
                refine wpAnyIn_ready (rs := [10]) (by kernel_rfl) (by simp) ?_
                refine AllReadyIn.cons rfl (fun K hK => ?_) ?_
                · go_simp
                  gi_wp2_with (gi_at_call 38; refine (CallsIn.outOfRound (G2.out _ _ _)).mono ?_; rintro e w9 ⟨rfl, rfl⟩)
                  refine wpAnyIn_take (i := 11) (v := ?_) rfl rfl (by kernel_rfl) (by kernel_rfl) (by kernel_rfl) (fun _ _ _ h => h) ⟨Or.inl ⟨by rfl, ?_⟩, fun _ => rfl⟩ ?_
                  case refine_2 => intro w; go_simp; first | done | with_reducible rfl
                  refine wpAnyIn_ready (rs := [12]) (by kernel_rfl) (by simp) ?_
                  refine AllReadyIn.cons rfl (fun K hK => ?_) ?_
                  · go_simp
                    refine hK _ _ ?_; clear hK K
                    refine wpAnyIn_done (by kernel_rfl) ?_ _
                    exact ⟨rfl, _, _, rfl⟩
                  exact AllReadyIn.nil
                exact AllReadyIn.nil
              exact AllReadyIn.nil
            refine AllReadyIn.cons rfl (fun K hK => ?_) ?_
            · go_simp
              refine hK _ _ ?_; clear hK K
              refine wpAnyIn_ready (rs := [5]) (by kernel_rfl) (by simp) ?_
              refine AllReadyIn.cons rfl (fun K hK => ?_) ?_
              · go_simp
                gi_wp2_with (gi_at_call 38; refine (CallsIn.outOfRound (G3.out _ _ _)).mono ?_; rintro e w9 ⟨rfl, rfl⟩)
                refine wpAnyIn_ready (rs := [10]) (by kernel_rfl) (by simp) ?_
                refine AllReadyIn.cons rfl (fun K hK => ?_) ?_
                · go_simp
                  gi_wp2_with (gi_at_call 38; refine (CallsIn.outOfRound (G2.out _ _ _)).mono ?_; rintro e w9 ⟨rfl, rfl⟩)
                  refine wpAnyIn_take (i := 11) (v := ?_) rfl rfl (by kernel_rfl) (by kernel_rfl) (by kernel_rfl) (fun _ _ _ h => h) ⟨Or.inl ⟨by rfl, ?_⟩, fun _ => rfl⟩ ?_
                  case refine_2 => intro w; go_simp; first | done | with_reducible rfl
                  refine wpAnyIn_ready (rs := [12]) (by kernel_rfl) (by simp) ?_
                  refine AllReadyIn.cons rfl (fun K hK => ?_) ?_
                  · go_simp
                    refine hK _ _ ?_; clear hK K
                    refine wpAnyIn_done (by kernel_rfl) ?_ _
                    exact ⟨rfl, _, _, rfl⟩
                  exact AllReadyIn.nil
                exact AllReadyIn.nil
              exact AllReadyIn.nil
            exact AllReadyIn.nil
          refine AllReadyIn.cons rfl (fun K hK => ?_) ?_
          · go_simp
            refine hK _ _ ?_; clear hK K
            refine wpAnyIn_ready (rs := [1]) (by kernel_rfl) (by simp) ?_
            refine AllReadyIn.cons rfl (fun K hK => ?_) ?_
            · go_simp
              refine hK _ _ ?_; clear hK K
              refine wpAnyIn_ready (rs := [5]) (by kernel_rfl) (by simp) ?_
              refine AllReadyIn.cons rfl (fun K hK => ?_) ?_
              · go_simp
                gi_wp2_with (gi_at_call 38; refine (CallsIn.outOfRound (G3.out _ _ _)).mono ?_; rintro e w9 ⟨rfl, rfl⟩)
                refine wpAnyIn_ready (rs := [10]) (by kernel_rfl) (by simp) ?_
                refine AllReadyIn.cons rfl (fun K hK => ?_) ?_
                · go_simp
                  gi_wp2_with (gi_at_call 38; refine (CallsIn.outOfRound (G2.out _ _ _)).mono ?_; rintro e w9 ⟨rfl, rfl⟩)
                  refine wpAnyIn_take (i := 11) (v := ?_) rfl rfl (by kernel_rfl) (by kernel_rfl) (by kernel_rfl) (fun _ _ _ h => h) ⟨Or.inl ⟨by rfl, ?_⟩, fun _ => rfl⟩ ?_
                  case refine_2 => intro w; go_simp; first | done | with_reducible rfl
                  refine wpAnyIn_ready (rs := [12]) (by kernel_rfl) (by simp) ?_
                  refine AllReadyIn.cons rfl (fun K hK => ?_) ?_
                  · go_simp
                    refine hK _ _ ?_; clear hK K
                    refine wpAnyIn_done (by kernel_rfl) ?_ _
                    exact ⟨rfl, _, _, rfl⟩
                  exact AllReadyIn.nil
                exact AllReadyIn.nil
              exact AllReadyIn.nil
            exact AllReadyIn.nil
          exact AllReadyIn.nil
        refine AllReadyIn.cons rfl (fun K hK => ?_) ?_
        · go_simp
          refine hK _ _ ?_; clear hK K
          refine wpAnyIn_ready (rs := [1, 4]) (by kernel_rfl) (by simp) ?_
          refine AllReadyIn.cons rfl (fun K hK => ?_) ?_
          · go_simp
            refine hK _ _ ?_; clear hK K
            refine wpAnyIn_ready (rs := [4]) (by kernel_rfl) (by simp) ?_
            refine AllReadyIn.cons rfl (fun K hK => ?_) ?_
            · go_simp
              refine hK _ _ ?_; clear hK K
              refine wpAnyIn_ready (rs := [5]) (by kernel_rfl) (by simp) ?_
              refine AllReadyIn.cons rfl (fun K hK => ?_) ?_
              · go_simp
                gi_wp2_with (gi_at_call 38; refine (CallsIn.outOfRound (G3.out _ _ _)).mono ?_; rintro e w9 ⟨rfl, rfl⟩)
                refine wpAnyIn_ready (rs := [10]) (by kernel_rfl) (by simp) ?_
                refine AllReadyIn.cons rfl (fun K hK => ?_) ?_
                · go_simp
                  gi_wp2_with (gi_at_call 38; refine (CallsIn.outOfRound (G2.out _ _ _)).mono ?_; rintro e w9 ⟨rfl, rfl⟩)
                  refine wpAnyIn_take (i := 11) (v := ?_) rfl rfl (by kernel_rfl) (by kernel_rfl) (by kernel_rfl) (fun _ _ _ h => h) ⟨Or.inl ⟨by rfl, ?_⟩, fun _ => rfl⟩ ?_
                  case refine_2 => intro w; go_simp; first | done | with_reducible rfl
                  refine wpAnyIn_ready (rs := [12]) (by kernel_rfl) (by simp) ?_
                  refine AllReadyIn.cons rfl (fun K hK => ?_) ?_
                  · go_simp
                    refine hK _ _ ?_; clear hK K
                    refine wpAnyIn_done (by kernel_rfl) ?_ _
                    exact ⟨rfl, _, _, rfl⟩
                  exact AllReadyIn.nil
                exact AllReadyIn.nil
              exact AllReadyIn.nil
            exact AllReadyIn.nil
          refine AllReadyIn.cons rfl (fun K hK => ?_) ?_
          · go_simp
            refine hK _ _ ?_; clear hK K
            refine wpAnyIn_ready (rs := [1]) (by kernel_rfl) (by simp) ?_
            refine AllReadyIn.cons rfl (fun K hK => ?_) ?_
            · go_simp
              refine hK _ _ ?_; clear hK K
              refine wpAnyIn_ready (rs := [5]) (by kernel_rfl) (by simp) ?_
              refine AllReadyIn.cons rfl (fun K hK => ?_) ?_
              · go_simp
                gi_wp2_with (gi_at_call 38; refine (CallsIn.outOfRound (G3.out _ _ _)).mono ?_; rintro e w9 ⟨rfl, rfl⟩)
                refine wpAnyIn_ready (rs := [10]) (by kernel_rfl) (by simp) ?_
                refine AllReadyIn.cons rfl (fun K hK => ?_) ?_
                · go_simp
                  gi_wp2_with (gi_at_call 38; refine (CallsIn.outOfRound (G2.out _ _ _)).mono ?_; rintro e w9 ⟨rfl, rfl⟩)
                  refine wpAnyIn_take (i := 11) (v := ?_) rfl rfl (by kernel_rfl) (by kernel_rfl) (by kernel_rfl) (fun _ _ _ h => h) ⟨Or.inl ⟨by rfl, ?_⟩, fun _ => rfl⟩ ?_
                  case refine_2 => intro w; go_simp; first | done | with_reducible rfl
                  refine wpAnyIn_ready (rs := [12]) (by kernel_rfl) (by simp) ?_
                  refine AllReadyIn.cons rfl (fun K hK => ?_) ?_
                  · go_simp
                    refine hK _ _ ?_; clear hK K
                    refine wpAnyIn_done (by kernel_rfl) ?_ _
                    exact ⟨rfl, _, _, rfl⟩
                  exact AllReadyIn.nil
                exact AllReadyIn.nil
              exact AllReadyIn.nil
            exact AllReadyIn.nil
          exact AllReadyIn.nil
        exact AllReadyIn.nil
      exact AllReadyIn.nil
    · rintro e a' w' ⟨rfl, o, o', rfl⟩
      obtain ⟨p2, p3, p4, p5, p6⟩ := HQ.out
      have c1 : Below w2.heap.size w2 ((w2.alloc o).alloc o').drew := (((Below.refl _ _).alloc (Nat.le_refl _) o).alloc (by simp) o').drew
      have hF : ∀ P : Nat → Prop, ¬ P (w.heap.size + 1 + 1) → Kpt P w2 ((((w2.alloc o).alloc o').drew.setCell ⟨w.heap.size + 1 + 1, 0, none⟩ (.int .i64 (max ea (-z)))).setCell ⟨w.heap.size + 1 + 1, 1, none⟩ (.int .i64 (max eb z))) := fun P hP => ((Kpt.of_all c1).trans (Kpt.set (p := ⟨w.heap.size + 1 + 1, 0, none⟩) hP _)).trans (Kpt.set (p := ⟨w.heap.size + 1 + 1, 1, none⟩) hP _)
      have hq1 : Blk ((((w2.alloc o).alloc o').drew.setCell ⟨w.heap.size + 1 + 1, 0, none⟩ (.int .i64 (max ea (-z)))).setCell ⟨w.heap.size + 1 + 1, 1, none⟩ (.int .i64 (max eb z))) (w.heap.size + 1 + 1) #[.int .i64 (max ea (-z)), .int .i64 (max eb z)] 90 := by
        have h9 := (((q1w.alloc o).alloc o').drew.set 0 (.int .i64 (max ea (-z)))).set 1 (.int .i64 (max eb z))
        simpa using h9
      refine ⟨?_, ?_, ?_, ?_, ?_, ?_⟩
      · exact (Kpt.of_all p6).trans (hF _ (fun h => by rcases h with (h | h) | h <;> omega))
      · rw [HE.out.1, HE.out.2]; exact hq1
      · exact ((hF (fun b => b = w.heap.size) (by omega)).blk _ p2.lt rfl).trans p2
      · exact ((hF (fun b => b = w.heap.size + 1) (by omega)).blk _ p3.lt rfl).trans p3
      · exact ((p4.trans (c1.mono p4.size)).setCell (p := ⟨w.heap.size + 1 + 1, 0, none⟩) (by show w.heap.size ≤ w.heap.size + 1 + 1; omega) _).setCell (p := ⟨w.heap.size + 1 + 1, 1, none⟩) (by show w.heap.size ≤ w.heap.size + 1 + 1; omega) _
      · exact Nat.le_trans p5 (hF (fun _ => False) (fun h => h)).size
  case done =>
    rintro DD xs Wa hDD hxs ⟨q1, q2, q3, q4, q5⟩ hK
    rw [hxs] at q1
    have hDl := (Array.getElem?_eq_some_iff.1 hK).1
    have Hlo := Lib.hid (loL_neg ((listsS T sp cs).map scf))
    have hbl := negMax_low ((listsS T sp cs).map scf) (fun z hz => by obtain ⟨y, _, rfl⟩ := List.mem_map.1 hz; exact (hsc y).2) (by simpa using hne)
    have hbh := negMax_high ((listsS T sp cs).map scf) (fun z hz => by obtain ⟨y, _, rfl⟩ := List.mem_map.1 hz; exact (hsc y).1)
    clear HCW HSc HC
    generalize negMax ((listsS T sp cs).map scf) = ea at *
    obtain ⟨eb, heb⟩ : ∃ z, z = hiL ((listsS T sp cs).map scf) := ⟨_, rfl⟩
    rw [← heb] at q1
    have Heb := Lib.hid heb
    clear heb
    have hwn : IntKind.i64.wrap (-ea) = -ea := IntWalk.i64_in _ (by omega)
    have q1c := q1.cell
    have f0 := q3.free 0
    have f1 := q3.free 1
    have q3c := q3.cell
    gi_wp2
    have hK2 : ((Wa.setCell ⟨w.heap.size + 1, 0, none⟩ (.int .i64 (-ea))).setCell ⟨w.heap.size + 1, 1, none⟩ (.int .i64 eb)).heap[DD]? = some (.deferred (some [])) := (Below.heap_setCell _ _ _ _ (by show DD ≠ w.heap.size + 1; omega)).trans ((Below.heap_setCell _ _ _ _ (by show DD ≠ w.heap.size + 1; omega)).trans hK)
    have hrE : Blk (((Wa.setCell ⟨w.heap.size + 1, 0, none⟩ (.int .i64 (-ea))).setCell ⟨w.heap.size + 1, 1, none⟩ (.int .i64 eb)).putObj DD (.deferred none)) (w.heap.size + 1) #[.int .i64 (-ea), .int .i64 eb] 54 := (World.putObj_heap_other (by omega)).trans (show Blk _ _ _ _ from by have h9 := (q3.set 0 (.int .i64 (-ea))).set 1 (.int .i64 eb); simpa using h9)
    have hrEc := hrE.cell
    refine ⟨by simp, .inl ⟨_, _, rfl, run_takeDeferred hK2, ?_⟩⟩
    refine ⟨.agg #[.int .i64 (-ea), .int .i64 eb], by simp [results, Tryz.results24, go_sem, hrEc], by rw [Hlo.out, Heb.out], ?_⟩
    exact ((q4.setCell (p := ⟨w.heap.size + 1, 0, none⟩) (by show w.heap.size ≤ w.heap.size + 1; omega) _).setCell (p := ⟨w.heap.size + 1, 1, none⟩) (by show w.heap.size ≤ w.heap.size + 1; omega) _).trans (below_putObj _ _ _ (by omega) (Array.getElem?_eq_some_iff.1 hK2).1)
  case stop =>
    rintro DD c M pre Wa hDD hpre h hK
    exact h.elim
end Go.Proofs.YtpahcbhikmfamaaGreat
