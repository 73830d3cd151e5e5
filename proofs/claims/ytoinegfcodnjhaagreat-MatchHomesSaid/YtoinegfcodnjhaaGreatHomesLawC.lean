/- For every rules, list of records and day the law on who lives together returns true, and each argument reads afterwards as it read before. No condition. -/
import Derived.Test.YtoinegfcodnjhaaGreatHomesPre
namespace Go.Proofs.YtoinegfcodnjhaaGreat
open Go.ChangeShapes Go.WideShapes Go.ChangeAt Go.RowKit Go.Deep Go.Maps

theorem mapsZero (w : World) : (zeroValue 76).run Tryz.prog w = .ok (.map none) w := by kernel_rfl
theorem recZero (w : World) : (zeroValue 47).run Tryz.prog w = .ok (.agg #[.int .i64 0, .slice none 0 0, .int .u8 0, .int .i64 0, .int .i64 0, .string ByteArray.empty, .bool false, .slice none 0 0]) w := by kernel_rfl

/-- What holds while the records are gone through. -/
structure HomesI (B : Nat) (W0 w : World) (l : List RD) (j N : Nat) (g : List (Int × Int)) : Prop where
  maps : ∃ n G, AtMap (B + 2) w (B + 1) n G (fun p => whoAt g p ≠ []) (whoAt g) ∧ n ≤ N
  by_ : MapFn w Tryz.prog 3 B j (byG (l.take j))
  below : Below B W0 w
theorem HomesI.more {B : Nat} {W0 w w' : World} {l : List RD} {j N : Nat} {g : List (Int × Int)} (h : HomesI B W0 w l j N g) (hb : Below w.heap.size w w') : HomesI B W0 w' l j N g := by
  obtain ⟨n, G, h1, h2⟩ := h.maps
  have hz := h.by_.lt
  exact ⟨⟨n, G, h1.more (grown_of_below hb), h2⟩, h.by_.below hb h.by_.lt, h.below.trans (hb.mono (Nat.le_of_lt hz))⟩
theorem HomesI.le {B : Nat} {W0 w : World} {l : List RD} {j N N' : Nat} {g : List (Int × Int)} (h : HomesI B W0 w l j N g) (hN : N ≤ N') : HomesI B W0 w l j N' g := by
  obtain ⟨n, G, h1, h2⟩ := h.maps
  exact ⟨⟨n, G, h1, by omega⟩, h.by_, h.below⟩
/-- A stay on the day, at a place where somebody is. -/
theorem HomesI.note {B : Nat} {W0 w w1 : World} {l : List RD} {j N n b : Nat} {g : List (Int × Int)} {G : Lit → Option Value} {p x : Int} (h : HomesI B W0 w l j N g) (hA : AtMap (B + 2) w (B + 1) n G (fun p => whoAt g p ≠ []) (whoAt g)) (hn : n ≤ N) (hp : whoAt g p ≠ []) (hb : G (.int .i64 p) = some (.map (some b)))
    (hput : MapFn w1 Tryz.prog 3 b ((whoAt g p).length + 1) (putFn (seenG (whoAt g p)) (.int .i64 x) (.bool true))) (hg : w.grownBy w1 (some b)) : HomesI B W0 w1 l j N (g ++ [(p, x)]) := by
  have hbB : B + 2 ≤ b := by
    obtain ⟨b', h1, _, h3⟩ := hA.some_ p hp
    rw [hb] at h1; cases h1; exact h3
  have hz := h.by_.lt
  refine ⟨⟨n, G, (hA.put p x hp hb hput hg).congr (fun q => ?_) (fun q => (whoAt_snoc g p x q).symm), hn⟩, h.by_.kept hg (fun e => by have := Option.some.inj e; omega), h.below.grown hg (Nat.le_of_lt hz) (fun k e => by have := Option.some.inj e; omega)⟩
  rw [whoAt_snoc]
  by_cases hq : q = p
  · subst hq; rw [if_pos rfl]; simp [hp]
  · rw [if_neg hq]
/-- A stay on the day, at a new place. -/
theorem HomesI.first {B : Nat} {W0 w w1 w2 w3 : World} {l : List RD} {j N n : Nat} {g : List (Int × Int)} {G : Lit → Option Value} {p x : Int} (h : HomesI B W0 w l j N g) (hA : AtMap (B + 2) w (B + 1) n G (fun p => whoAt g p ≠ []) (whoAt g)) (hn : n ≤ N) (hp : whoAt g p = []) (hB : B + 2 ≤ w.heap.size)
    (hw1 : w1 = w.alloc (.map #[] 0)) (hput : MapFn w2 Tryz.prog 3 (B + 1) (n + 1) (putFn G (.int .i64 p) (.map (some w.heap.size)))) (hg2 : w1.grownBy w2 (some (B + 1)))
    (hput3 : MapFn w3 Tryz.prog 3 w.heap.size 1 (putFn (seenG []) (.int .i64 x) (.bool true))) (hg3 : w2.grownBy w3 (some w.heap.size)) : HomesI B W0 w3 l j (N + 1) (g ++ [(p, x)]) := by
  subst hw1
  have hm := MapFn.made w Tryz.prog 3
  have hga := World.grownBy_alloc w (.map #[] 0) none
  have hO := hA.open_ p (fun e => e hp) hp rfl hB hm hga hput hg2
  have same : putFn G (.int .i64 p) (.map (some w.heap.size)) (.int .i64 p) = some (.map (some w.heap.size)) := by simp [putFn]
  have hP := hO.put (b := w.heap.size) p x (.inr rfl) same (by rw [hp]; exact hput3) hg3
  have hz := h.by_.lt
  have hz2 : w.heap.size ≤ w2.heap.size := by have := hg2.size; simp at this; omega
  refine ⟨⟨_, _, hP.congr (fun q => ?_) (fun q => (whoAt_snoc g p x q).symm), by omega⟩, ((h.by_.kept hga (by simp)).kept hg2 (fun e => by have := Option.some.inj e; omega)).kept hg3 (fun e => by have := Option.some.inj e; omega), ((h.below.grown hga (Nat.le_of_lt hz) (fun k e => by cases e)).grown hg2 (by simp; omega) (fun k e => by have := Option.some.inj e; omega)).grown hg3 (by omega) (fun k e => by have := Option.some.inj e; omega)⟩
  rw [whoAt_snoc]
  by_cases hq : q = p
  · subst hq; rw [if_pos rfl]; simp
  · rw [if_neg hq]; simp [hq]

/-- Two records in new memory. -/
def TwoAt (V : World) (x y : RD) (s1 s2 : Value) (W : World) : Prop := ∃ b1 b2, s1 = .pointer (some ⟨b1, 0, none⟩) ∧ s2 = .pointer (some ⟨b2, 0, none⟩) ∧ Hid (Blk W b1 #[.int .i64 x.r.id, .slice x.A x.r.names.length x.c, .int .u8 x.r.suf, .int .i64 x.r.lo, .int .i64 x.r.hi, .string x.r.num, .bool x.r.twin, .slice x.D x.r.stays.length x.d] 47 ∧ Blk W b2 #[.int .i64 y.r.id, .slice y.A y.r.names.length y.c, .int .u8 y.r.suf, .int .i64 y.r.lo, .int .i64 y.r.hi, .string y.r.num, .bool y.r.twin, .slice y.D y.r.stays.length y.d] 47) ∧ Below V.heap.size V W

set_option maxRecDepth 100000 in
set_option maxHeartbeats 8000000 in
theorem matchHomes_any (u : Rul) (l : List RD) (A : Option Addr) (c : Nat) (day : Int) (w : World) (h : Recs w w.heap.size A l) (hl : l.length ≤ maxLen) (hsuf : ∀ x ∈ l, 0 ≤ x.r.suf) :
    Calls Tryz.prog 9 #[.agg #[.int .i64 u.l, .int .i64 u.d, .int .i64 u.y, .int .i64 u.t], .slice A l.length c, .int .i64 day] w fun e w' => e = .returned (.bool true) ∧ Below w.heap.size w w' := by
  have b0 := (Below.refl w.heap.size w).alloc (Nat.le_refl _) (.cells #[.int .i64 u.l, .int .i64 u.d, .int .i64 u.y, .int .i64 u.t] 23)
  have k0 := Blk.new w #[.int .i64 u.l, .int .i64 u.d, .int .i64 u.y, .int .i64 u.t] 23
  have Hl := h.later b0
  have HQ := Lib.hid (fun W => alive_any W)
  have HG := Lib.hid (fun W hh => great_any l A c W hh hl)
  have HU := Lib.hid (fun W => refRules_below u.l u.d u.y u.t W)
  have HL := Lib.hid (fun W hh => listE_eq l ▸ refRecords_any l A c W hh hl)
  cases hg : greatL l with
  | true =>
    rw [hg] at HG
    go_enter Tryz.func9, Tryz.ntmps9
    go_wp2_with (first
      | (go_at_call 19; (with_reducible refine (HQ.out _).mono ?_); rintro e w1 ⟨rfl, h1⟩; have b1 := b0.trans (h1.mono b0.size); have Hl1 := h.later b1)
      | (go_at_call 10; (with_reducible refine (HG.out _ Hl1).mono ?_); rintro e w2 ⟨rfl, h2⟩))
    go_ret
    exact ⟨rfl, b1.trans (h2.mono b1.size)⟩
  | false =>
    rw [hg] at HG
    cases hR : rulesB u.l u.d u.y u.t with
    | false =>
      rw [hR] at HU
      go_enter Tryz.func9, Tryz.ntmps9
      go_wp2_with (first
        | (go_at_call 19; (with_reducible refine (HQ.out _).mono ?_); rintro e w1 ⟨rfl, h1⟩; have b1 := b0.trans (h1.mono b0.size); have Hl1 := h.later b1; have k1 := k0.below h1 k0.lt)
        | (go_at_call 10; (with_reducible refine (HG.out _ Hl1).mono ?_); rintro e w2 ⟨rfl, h2⟩; have b2 := b1.trans (h2.mono b1.size); have c2 := (k1.below h2 k1.lt).cell)
        | (go_at_call 20; (with_reducible refine (HU.out _).mono ?_); rintro e w3 ⟨rfl, h3⟩))
      go_ret
      exact ⟨rfl, b2.trans (h3.mono b2.size)⟩
    | true =>
      rw [hR] at HU
      by_cases hz : recsE (l.map RD.r) = 0
      · rw [hz] at HL
        by_cases hd0 : day < 0
        · go_enter Tryz.func9, Tryz.ntmps9
          go_wp2_with (first
            | (go_at_call 19; (with_reducible refine (HQ.out _).mono ?_); rintro e w1 ⟨rfl, h1⟩; have b1 := b0.trans (h1.mono b0.size); have Hl1 := h.later b1; have k1 := k0.below h1 k0.lt)
            | (go_at_call 10; (with_reducible refine (HG.out _ Hl1).mono ?_); rintro e w2 ⟨rfl, h2⟩; have b2 := b1.trans (h2.mono b1.size); have k2 := k1.below h2 k1.lt; have c2 := k2.cell)
            | (go_at_call 20; (with_reducible refine (HU.out _).mono ?_); rintro e w3 ⟨rfl, h3⟩; have b3 := b2.trans (h3.mono b2.size); have Hl3 := h.later b3)
            | (go_at_call 27; (with_reducible refine (HL.out _ Hl3).mono ?_); rintro e w4 ⟨rfl, h4⟩))
          go_ret
          exact ⟨rfl, b3.trans (h4.mono b3.size)⟩
        · by_cases hd1 : 100000 < day
          · go_enter Tryz.func9, Tryz.ntmps9
            go_wp2_with (first
              | (go_at_call 19; (with_reducible refine (HQ.out _).mono ?_); rintro e w1 ⟨rfl, h1⟩; have b1 := b0.trans (h1.mono b0.size); have Hl1 := h.later b1; have k1 := k0.below h1 k0.lt)
              | (go_at_call 10; (with_reducible refine (HG.out _ Hl1).mono ?_); rintro e w2 ⟨rfl, h2⟩; have b2 := b1.trans (h2.mono b1.size); have k2 := k1.below h2 k1.lt; have c2 := k2.cell)
              | (go_at_call 20; (with_reducible refine (HU.out _).mono ?_); rintro e w3 ⟨rfl, h3⟩; have b3 := b2.trans (h3.mono b2.size); have Hl3 := h.later b3)
              | (go_at_call 27; (with_reducible refine (HL.out _ Hl3).mono ?_); rintro e w4 ⟨rfl, h4⟩))
            go_ret
            exact ⟨rfl, b3.trans (h4.mono b3.size)⟩
          · have hD : inB day 0 100000 = true := by simp [inB]; omega
            have hE0 : homesE day (l.map RD.r) = 0 := by rw [homesE, if_pos hD]; exact hz
            have hV0 : homesV day (l.map RD.r) = (placesL day (sortR (l.map RD.r))).map fun p => idsAt day p (sortR (l.map RD.r)) := by rw [homesV, if_pos hE0]; rfl
            have HH := Lib.hid (fun W hh => homes_any day l A c W hh hl)
            rw [hE0, hV0, List.length_map] at HH
            have HP := Lib.hid (placesL_strict day (sortR (l.map RD.r)))
            have HP0 := Lib.hid (placesL_ok (day := day) hz)
            obtain ⟨V, hV⟩ : ∃ V : Int → List Int, (fun p => idsAt day p (sortR (l.map RD.r))) = V := ⟨_, rfl⟩
            rw [hV] at HH
            have hVp : ∀ p, idsAt day p (sortR (l.map RD.r)) = V p := fun p => congrFun hV p
            have HI := Lib.hid (fun p => show (V p).Pairwise (· < ·) by rw [← hVp]; exact idsAt_strict (day := day) (p := p) (sortR_strict hz))
            have hrec : ∀ x ∈ l, recB x.r = true := fun x hx => (recB_of_zero hz).1 x.r ((sortR_perm _).mem_iff.2 (List.mem_map_of_mem hx))
            have hnd : (l.map fun x => x.r.id).Nodup := by have := recs_nodup hz; rwa [List.map_map] at this
            have h24 := (recB_of_zero hz).2
            rw [List.length_map] at h24
            have HW := Lib.hid (fun p n => show n ∈ whoAt (logL day (l.map RD.r)) p ↔ n ∈ V p by rw [← hVp]; exact (whoAt_mem day p n (l.map RD.r)).trans (idsAt_perm (day := day) (p := p) (sortR_perm (l.map RD.r)).symm).mem_iff)
            have HPm := Lib.hid (fun p => show p ∈ placesL day (sortR (l.map RD.r)) ↔ V p ≠ [] by rw [← hVp]; exact placesL_mem day p (sortR (l.map RD.r)))
            have HB := Lib.hid (fun p n (hn : n ∈ V p) => show ∃ x ∈ l, x.r.id = n by
              rw [← hVp] at hn
              obtain ⟨r, hr, e⟩ := List.mem_map.1 hn
              obtain ⟨x, hx, e2⟩ := List.mem_map.1 ((sortR_perm (l.map RD.r)).mem_iff.1 (List.mem_filter.1 hr).1)
              exact ⟨x, hx, by rw [e2]; exact e⟩)
            have HV24 := Lib.hid (fun p => show (V p).length ≤ 24 by
              rw [← hVp]
              unfold idsAt
              rw [List.length_map]
              have h1 := List.length_filter_le (atB day p) (sortR (l.map RD.r))
              have h2 : (sortR (l.map RD.r)).length = (l.map RD.r).length := (sortR_perm _).length_eq
              rw [List.length_map] at h2
              omega)
            have Hrec := Lib.hid hrec
            have Hnd := Lib.hid hnd
            generalize placesL day (sortR (l.map RD.r)) = P at *
            clear hz hE0 hV0 hD hg hrec hnd hV hVp
            have hmm := @run_makeMap Tryz.prog
            go_enter Tryz.func9, Tryz.ntmps9
            go_wp2_with (first
              | (go_at_call 19; (with_reducible refine (HQ.out _).mono ?_); rintro e w1 ⟨rfl, h1⟩; have b1 := b0.trans (h1.mono b0.size); have Hl1 := h.later b1; have k1 := k0.below h1 k0.lt)
              | (go_at_call 10; (with_reducible refine (HG.out _ Hl1).mono ?_); rintro e w2 ⟨rfl, h2⟩; have b2 := b1.trans (h2.mono b1.size); have k2 := k1.below h2 k1.lt; have c2 := k2.cell)
              | (go_at_call 20; (with_reducible refine (HU.out _).mono ?_); rintro e w3 ⟨rfl, h3⟩; have b3 := b2.trans (h3.mono b2.size); have Hl3 := h.later b3; have k3 := k2.below h3 k2.lt)
              | (go_at_call 27; (with_reducible refine (HL.out _ Hl3).mono ?_); rintro e w4 ⟨rfl, h4⟩; have b4 := b3.trans (h4.mono b3.size); have Hl4 := h.later b4; have k4 := k3.below h4 k3.lt)
              | (go_at_call 14; (with_reducible refine (HH.out _ Hl4).mono ?_); rintro e w5 ⟨A5, c5, rfl, hL5, h5⟩; have b5 := b4.trans (h5.mono b4.size); have Hl5 := h.later b5; have k5 := k4.below h5 k4.lt))
            have hM0 : MapFn ((w5.alloc (.map #[] 0)).alloc (.map #[] 0)) Tryz.prog 3 w5.heap.size 0 (byG (l.take 0)) := (MapFn.made w5 Tryz.prog 3).alloc _
            have hM1 : MapFn ((w5.alloc (.map #[] 0)).alloc (.map #[] 0)) Tryz.prog 3 (w5.heap.size + 1) 0 (fun _ => none) := by
              have := MapFn.made (w5.alloc (.map #[] 0)) Tryz.prog 3
              rwa [World.size_alloc] at this
            have hb6 : Below w5.heap.size w5 ((w5.alloc (.map #[] 0)).alloc (.map #[] 0)) := ((Below.refl _ _).alloc (Nat.le_refl _) _).alloc (by simp) _
            have HI0 : Hid (HomesI w5.heap.size w5 ((w5.alloc (.map #[] 0)).alloc (.map #[] 0)) l 0 0 [] ∧ w5.heap.size + 2 ≤ ((w5.alloc (.map #[] 0)).alloc (.map #[] 0)).heap.size) := Lib.hid ⟨⟨⟨0, _, (AtMap.made hM1 (by omega)).congr (fun p => by simp [whoAt]) (fun p => by simp [whoAt]), Nat.le_refl _⟩, hM0, hb6⟩, by simp⟩
            clear hM0 hM1 h1 h2 h3 h4 h5 b0 b1 b2 b3 b4 Hl Hl1 Hl3 Hl4 k0 k1 k2 k3 k4 c2 HQ HG HU HL HH
            generalize (w5.alloc (.map #[] 0)).alloc (.map #[] 0) = W6 at *
            go_loopw [63] (fun ii wr => ∃ i : Nat, i ≤ l.length ∧ ii = .int .i64 i ∧ Hid (HomesI w5.heap.size w5 wr l i (10 * i) (logL day ((l.map RD.r).take i)) ∧ w5.heap.size + 2 ≤ wr.heap.size)) (fun ii _ => l.length - (intOf ii).toNat)
            case atStart => exact ⟨0, Nat.zero_le _, rfl, HI0⟩
            case round =>
              obtain ⟨i, hi, rfl, hR1⟩ := hrel
              by_cases hlt : i < l.length
              · as_aux_lemma =>
                have hil : (i : Int) < (l.length : Int) := by omega
                obtain ⟨hI1, hsz1⟩ := hR1.out
                obtain ⟨b, off, rfl, hb, C, hr, _⟩ := (Hl5.later hI1.below).eight hlt
                have hrx := Hrec.out _ (List.getElem_mem hlt)
                have hr5 : RecAt w5 w5.heap.size l[i].A l[i].D l[i].r := by obtain ⟨_, _, _, _, _, h1, _⟩ := Hl5.eight hlt; exact h1
                have hnx : l[i].r.id ∉ (l.take i).map fun y => y.r.id := fun e => by
                  have h1 := Hnd.out
                  rw [← List.take_append_drop i l, List.map_append, List.nodup_append] at h1
                  refine h1.2.2 _ e _ ?_ rfl
                  rw [List.drop_eq_getElem_cons hlt, List.map_cons]; exact List.mem_cons_self
                have HT := Lib.hid (byG_snoc (l.take i) l[i] hnx)
                have HT2 : Hid (l.take i ++ [l[i]] = l.take (i + 1)) := Lib.hid (List.take_succ_eq_append_getElem hlt).symm
                have HT3 : Hid (logL day ((l.map RD.r).take (i + 1)) = logL day ((l.map RD.r).take i) ++ logR day l[i].r l[i].r.stays.length) := Lib.hid (by
                  rw [List.take_succ_eq_append_getElem (by simpa using hlt), List.getElem_map, logL_snoc])
                have hst : staysB l[i].r.stays = true := (recB_parts hrx).2.2.2.2.2
                have hst6 : l[i].r.stays.length ≤ 6 := by simp only [staysB, Bool.and_eq_true, decide_eq_true_eq] at hst; exact hst.1
                have wfp : (Lit.int .i64 l[i].r.id).wf = true := WalkArith.wf_i64 (by simp only [recB, Bool.and_eq_true] at hrx; have := hrx.1.1.1.1.1; simp [inB] at this; omega)
                generalize l[i] = x at *
                obtain ⟨c0, c1, c2, c3, c4, c5, c6, c7⟩ := C
                have hM2 := hI1.by_.alloc (.cells #[.int .i64 x.r.id, .slice x.A x.r.names.length x.c, .int .u8 x.r.suf, .int .i64 x.r.lo, .int .i64 x.r.hi, .string x.r.num, .bool x.r.twin, .slice x.D x.r.stays.length x.d] 47)
                obtain ⟨w3, hrun3, hput, hg3⟩ := hM2.put (int_keyed Tryz.underlying3) Tryz.underlying68 (by unfold maxLen; omega) (keyOf_int_mk Tryz.underlying3 wfp) (val := .agg #[.int .i64 x.r.id, .slice x.A x.r.names.length x.c, .int .u8 x.r.suf, .int .i64 x.r.lo, .int .i64 x.r.hi, .string x.r.num, .bool x.r.twin, .slice x.D x.r.stays.length x.d])
                rw [HT.out, HT2.out] at hput
                have kx := (Blk.new wr #[.int .i64 x.r.id, .slice x.A x.r.names.length x.c, .int .u8 x.r.suf, .int .i64 x.r.lo, .int .i64 x.r.hi, .string x.r.num, .bool x.r.twin, .slice x.D x.r.stays.length x.d] 47).grown hg3 (fun e => by have := Option.some.inj e; omega)
                have kxc := kx.cell
                have hbw : Below wr.heap.size wr (wr.alloc (.cells #[.int .i64 x.r.id, .slice x.A x.r.names.length x.c, .int .u8 x.r.suf, .int .i64 x.r.lo, .int .i64 x.r.hi, .string x.r.num, .bool x.r.twin, .slice x.D x.r.stays.length x.d] 47)) := (Below.refl _ _).alloc (Nat.le_refl _) _
                have hz3 := hg3.size
                have HJ : Hid (HomesI w5.heap.size w5 w3 l (i + 1) (10 * i + 0) (logL day ((l.map RD.r).take i) ++ logR day x.r 0) ∧ Blk w3 wr.heap.size #[.int .i64 x.r.id, .slice x.A x.r.names.length x.c, .int .u8 x.r.suf, .int .i64 x.r.lo, .int .i64 x.r.hi, .string x.r.num, .bool x.r.twin, .slice x.D x.r.stays.length x.d] 47 ∧ wr.heap.size < w3.heap.size) := Lib.hid ⟨⟨by
                    obtain ⟨n, G, a1, a2⟩ := (hI1.more hbw).maps
                    rw [logR_zero, List.append_nil]
                    exact ⟨n, G, a1.kept hg3 (fun e => by have := Option.some.inj e; omega) (a1.low_ne (by omega) (by omega)), by omega⟩, hput, (hI1.more hbw).below.grown hg3 (by simp; omega) (fun k e => by have := Option.some.inj e; omega)⟩, kx, by simp at hz3; omega⟩
                have Hr5 := Lib.hid hr5
                have hbr := hI1.below
                have hsl : x.r.stays.length ≤ 9223372036854775807 := by omega
                clear hput hM2 hI1 hR1 HT HT2 hr hr5 hnx kx hz3 hbw HI0 hbr
                obtain ⟨wo, rfl⟩ : ∃ wo : World, wo = wr := ⟨_, rfl⟩
                go_wp2_with fail
                go_loopw [74] (fun jj wr => ∃ q : Nat, q ≤ x.r.stays.length ∧ jj = .int .i64 q ∧ Hid (HomesI w5.heap.size w5 wr l (i + 1) (10 * i + q) (logL day ((l.map RD.r).take i) ++ logR day x.r q) ∧ Blk wr wo.heap.size #[.int .i64 x.r.id, .slice x.A x.r.names.length x.c, .int .u8 x.r.suf, .int .i64 x.r.lo, .int .i64 x.r.hi, .string x.r.num, .bool x.r.twin, .slice x.D x.r.stays.length x.d] 47 ∧ wo.heap.size < wr.heap.size)) (fun jj _ => x.r.stays.length - (intOf jj).toNat)
                case atStart => exact ⟨0, Nat.zero_le _, rfl, HJ⟩
                case round =>
                  obtain ⟨q, hq, rfl, hR2⟩ := hrel
                  clear HJ
                  by_cases hqt : q < x.r.stays.length
                  · as_aux_lemma =>
                    have hql : (q : Int) < (x.r.stays.length : Int) := by omega
                    obtain ⟨hI2, kx2, hsz2⟩ := hR2.out
                    obtain ⟨g, og, hDg, hgl, s0, s1, s2⟩ := (Hr5.out.later hI2.below).stays q hqt
                    have hsp := (staysB_at hst hqt).1
                    have HN := Lib.hid (logR_next day x.r q hqt)
                    generalize x.r.stays[q] = s at *
                    have wfs : (Lit.int .i64 s.p).wf = true := WalkArith.wf_i64 (by simp [inB] at hsp; omega)
                    have hba : Below wr.heap.size wr (wr.alloc (.cells #[.int .i64 s.p, .int .i64 s.f, .int .i64 s.t] 75)) := (Below.refl _ _).alloc (Nat.le_refl _) _
                    have kxa := kx2.alloc (.cells #[.int .i64 s.p, .int .i64 s.f, .int .i64 s.t] 75)
                    have hIa := hI2.more hba
                    by_cases h1 : s.f ≤ day
                    · by_cases h2 : day ≤ s.t
                      · have HL1 : Hid (logL day ((l.map RD.r).take i) ++ logR day x.r (q + 1) = (logL day ((l.map RD.r).take i) ++ logR day x.r q) ++ [(s.p, x.r.id)]) := Lib.hid (by rw [HN.out, if_pos (onDay_of h1 h2), List.append_assoc])
                        have hgl6 : (logL day ((l.map RD.r).take i) ++ logR day x.r q).length ≤ 1000 := by
                          have h8 := logL_le day ((l.map RD.r).take i) (fun r hr => by
                            obtain ⟨y, hy, rfl⟩ := List.mem_map.1 (List.mem_of_mem_take hr)
                            have h7 := (recB_parts (Hrec.out y hy)).2.2.2.2.2
                            simp only [staysB, Bool.and_eq_true, decide_eq_true_eq] at h7
                            exact h7.1)
                          have h9 := logR_le day x.r q
                          rw [List.length_take, List.length_map] at h8
                          rw [List.length_append]
                          omega
                        generalize logL day ((l.map RD.r).take i) ++ logR day x.r q = gl at *
                        obtain ⟨n, G, hA, hn⟩ := hIa.maps
                        have look1 := hA.map.look (int_keyed Tryz.underlying3) Tryz.underlying73 (mapsZero _) (keyOf_int_mk Tryz.underlying3 wfs)
                        have kc1 := kxa.cell
                        by_cases hp : whoAt gl s.p = []
                        · rw [hA.none_ s.p (fun e => e hp), Option.getD_none] at look1
                          have hnil : ∀ W, (binOp .eql 76 (.map none) (.map none)).run Tryz.prog W = .ok (.bool true) W := fun W => run_eql_map_nil W _ _ _ none Tryz.underlying76
                          obtain ⟨w3, hrun3, hput3, hg3⟩ := (hA.map.alloc (.map #[] 0)).put (int_keyed Tryz.underlying3) Tryz.underlying73 (by unfold maxLen; omega) (keyOf_int_mk Tryz.underlying3 wfs) (val := .map (some (wr.heap.size + 1)))
                          have look2 := hput3.look (int_keyed Tryz.underlying3) Tryz.underlying73 (mapsZero _) (keyOf_int_mk Tryz.underlying3 wfs)
                          rw [show putFn G (.int .i64 s.p) (.map (some (wr.heap.size + 1))) (.int .i64 s.p) = some (.map (some (wr.heap.size + 1))) by simp [putFn], Option.getD_some] at look2
                          have hm3 : MapFn w3 Tryz.prog 3 (wr.heap.size + 1) 0 (seenG []) := by
                            rw [show seenG [] = fun _ => none by funext z; simp [seenG]]
                            have := (MapFn.made (wr.alloc (.cells #[.int .i64 s.p, .int .i64 s.f, .int .i64 s.t] 75)) Tryz.prog 3).kept hg3 (fun e => by have := Option.some.inj e; simp at this; omega)
                            rwa [World.size_alloc] at this
                          obtain ⟨w4, hrun4, hput4, hg4⟩ := hm3.put (int_keyed Tryz.underlying3) Tryz.underlying76 (by simp [maxLen]) (keyOf_int_mk Tryz.underlying3 wfp) (val := .bool true)
                          have kx3 := (kxa.alloc (.map #[] 0)).grown hg3 (fun e => by have := Option.some.inj e; omega)
                          have kc3 := kx3.cell
                          have sc3 := (((Blk.new wr #[.int .i64 s.p, .int .i64 s.f, .int .i64 s.t] 75).alloc (.map #[] 0)).grown hg3 (fun e => by have := Option.some.inj e; omega)).cell
                          have kx4 := kx3.grown hg4 (fun e => by have := Option.some.inj e; omega)
                          have hz3 := hg3.size
                          have hz4 := hg4.size
                          have HJ : Hid (HomesI w5.heap.size w5 w4 l (i + 1) (10 * i + (q + 1)) (logL day ((l.map RD.r).take i) ++ logR day x.r (q + 1)) ∧ Blk w4 wo.heap.size #[.int .i64 x.r.id, .slice x.A x.r.names.length x.c, .int .u8 x.r.suf, .int .i64 x.r.lo, .int .i64 x.r.hi, .string x.r.num, .bool x.r.twin, .slice x.D x.r.stays.length x.d] 47 ∧ wo.heap.size < w4.heap.size) := Lib.hid ⟨by
                            rw [HL1.out]
                            refine (hIa.first hA hn hp (by simp; omega) rfl ?_ hg3 ?_ ?_)
                            · rw [World.size_alloc]; exact hput3
                            · rw [World.size_alloc]; exact hput4
                            · rw [World.size_alloc]; exact hg4, kx4, by simp at hz3; omega⟩
                          clear hput3 hput4 hg3 hg4 hm3 kx3 kx4 hA hIa hI2 hR2 HL1 hz3 hz4 kx2 kxa hba hp
                          go_wp2_with fail
                          go_roundw
                          case rel => exact ⟨q + 1, by omega, by go_num, HJ⟩
                          case measure => simp [intOf]; omega
                        · obtain ⟨bi, hbi, hmi, hbB⟩ := hA.some_ s.p hp
                          rw [hbi, Option.getD_some] at look1
                          have hnil : ∀ W, (binOp .eql 76 (.map (some bi)) (.map none)).run Tryz.prog W = .ok (.bool false) W := fun W => run_eql_map_nil W _ _ _ (some bi) Tryz.underlying76
                          have hlen : (whoAt gl s.p).length ≤ 1000 := Nat.le_trans (whoAt_le gl s.p) hgl6
                          obtain ⟨w4, hrun4, hput4, hg4⟩ := hmi.put (int_keyed Tryz.underlying3) Tryz.underlying76 (by unfold maxLen; omega) (keyOf_int_mk Tryz.underlying3 wfp) (val := .bool true)
                          have kx4 := kxa.grown hg4 (fun e => by
                            obtain ⟨es, ck, hck⟩ := mapFn_heap hmi
                            have h9 := Option.some.inj e
                            rw [← h9] at hck
                            have h8 := (show (wr.alloc (.cells #[.int .i64 s.p, .int .i64 s.f, .int .i64 s.t] 75)).heap[wo.heap.size]? = _ from kxa)
                            rw [hck] at h8
                            cases h8)
                          have hz4 := hg4.size
                          have HJ : Hid (HomesI w5.heap.size w5 w4 l (i + 1) (10 * i + (q + 1)) (logL day ((l.map RD.r).take i) ++ logR day x.r (q + 1)) ∧ Blk w4 wo.heap.size #[.int .i64 x.r.id, .slice x.A x.r.names.length x.c, .int .u8 x.r.suf, .int .i64 x.r.lo, .int .i64 x.r.hi, .string x.r.num, .bool x.r.twin, .slice x.D x.r.stays.length x.d] 47 ∧ wo.heap.size < w4.heap.size) := Lib.hid ⟨by
                            rw [HL1.out]
                            exact (hIa.note hA hn hp hbi hput4 hg4).le (by omega), kx4, by simp at hz4; omega⟩
                          clear hput4 hg4 hmi kx4 hA hIa hI2 hR2 HL1 hz4 kx2 kxa hba hp
                          go_wp2_with fail
                          go_roundw
                          case rel => exact ⟨q + 1, by omega, by go_num, HJ⟩
                          case measure => simp [intOf]; omega
                      · have HJ : Hid (HomesI w5.heap.size w5 (wr.alloc (.cells #[.int .i64 s.p, .int .i64 s.f, .int .i64 s.t] 75)) l (i + 1) (10 * i + (q + 1)) (logL day ((l.map RD.r).take i) ++ logR day x.r (q + 1)) ∧ Blk (wr.alloc (.cells #[.int .i64 s.p, .int .i64 s.f, .int .i64 s.t] 75)) wo.heap.size #[.int .i64 x.r.id, .slice x.A x.r.names.length x.c, .int .u8 x.r.suf, .int .i64 x.r.lo, .int .i64 x.r.hi, .string x.r.num, .bool x.r.twin, .slice x.D x.r.stays.length x.d] 47 ∧ wo.heap.size < (wr.alloc (.cells #[.int .i64 s.p, .int .i64 s.f, .int .i64 s.t] 75)).heap.size) := Lib.hid ⟨by
                          rw [HN.out, onDay_t h2, if_neg (by decide), List.append_nil]; exact hIa.le (by omega), kxa, by simp; omega⟩
                        clear hIa hI2 hR2 kx2 kxa hba
                        go_wp2_with fail
                        go_roundw
                        case rel => exact ⟨q + 1, by omega, by go_num, HJ⟩
                        case measure => simp [intOf]; omega
                    · have HJ : Hid (HomesI w5.heap.size w5 (wr.alloc (.cells #[.int .i64 s.p, .int .i64 s.f, .int .i64 s.t] 75)) l (i + 1) (10 * i + (q + 1)) (logL day ((l.map RD.r).take i) ++ logR day x.r (q + 1)) ∧ Blk (wr.alloc (.cells #[.int .i64 s.p, .int .i64 s.f, .int .i64 s.t] 75)) wo.heap.size #[.int .i64 x.r.id, .slice x.A x.r.names.length x.c, .int .u8 x.r.suf, .int .i64 x.r.lo, .int .i64 x.r.hi, .string x.r.num, .bool x.r.twin, .slice x.D x.r.stays.length x.d] 47 ∧ wo.heap.size < (wr.alloc (.cells #[.int .i64 s.p, .int .i64 s.f, .int .i64 s.t] 75)).heap.size) := Lib.hid ⟨by
                        rw [HN.out, onDay_f h1, if_neg (by decide), List.append_nil]; exact hIa.le (by omega), kxa, by simp; omega⟩
                      clear hIa hI2 hR2 kx2 kxa hba
                      go_wp2_with fail
                      go_roundw
                      case rel => exact ⟨q + 1, by omega, by go_num, HJ⟩
                      case measure => simp [intOf]; omega
                  · have hql : ¬ (q : Int) < (x.r.stays.length : Int) := by omega
                    have HJ : Hid (HomesI w5.heap.size w5 wr l (i + 1) (10 * (i + 1)) (logL day ((l.map RD.r).take (i + 1))) ∧ w5.heap.size + 2 ≤ wr.heap.size) := Lib.hid ⟨by
                      have h1 := hR2.out.1
                      rw [show q = x.r.stays.length by omega] at h1
                      rw [HT3.out]; exact h1.le (by omega), by have := hR2.out.2.2; omega⟩
                    clear hR2
                    go_wp2_with fail
                    go_roundw
                    case rel => exact ⟨i + 1, by omega, by go_num, HJ⟩
                    case measure => simp [intOf]; omega
              · have hil : ¬ (i : Int) < (l.length : Int) := by omega
                obtain rfl : i = l.length := by omega
                obtain ⟨hI1, hsz1⟩ := hR1.out
                obtain ⟨n, G, hA, hn⟩ := hI1.maps
                rw [show (l.map RD.r).take l.length = l.map RD.r from List.take_of_length_le (by simp)] at hA
                have hby := hI1.by_
                rw [List.take_of_length_le (Nat.le_refl _)] at hby
                have hwn : ∀ p, whoAt (logL day (l.map RD.r)) p = [] ↔ V p = [] := fun p => by
                  rw [List.eq_nil_iff_forall_not_mem, List.eq_nil_iff_forall_not_mem]
                  exact ⟨fun e m hm => e m ((HW.out p m).2 hm), fun e m hm => e m ((HW.out p m).1 hm)⟩
                have hGs : ∀ p, p ∈ P ↔ (G (.int .i64 p)).isSome = true := fun p => by
                  rw [HPm.out]
                  constructor
                  · intro e
                    obtain ⟨b, h1, _⟩ := hA.some_ p (fun e2 => e ((hwn p).1 e2))
                    rw [h1]; rfl
                  · intro e e2
                    rw [hA.none_ p (fun e3 => e3 ((hwn p).2 e2))] at e; cases e
                have hw7 := hI1.below
                have HA := Lib.hid hA
                have Hby := Lib.hid hby
                have HGs := Lib.hid hGs
                obtain ⟨D0, hown0, hat0⟩ := hA.map
                have Hs0 := Lib.hid (size_of hown0 hat0 (strict_nodup HP.out) hGs)
                have HL5 := Lib.hid hL5
                have hP5 : P.length ≤ 100000 := by
                  rcases Nat.eq_zero_or_pos P.length with e | e
                  · omega
                  · have h1 := strict_ge HP.out (fun p h => (HP0.out p h).1) (P.length - 1) (by omega)
                    have h2 := (HP0.out _ (List.getElem_mem (show P.length - 1 < P.length by omega))).2
                    omega
                clear hA hby hGs hwn hI1 hR1 HI0 hL5 hat0 hmm
                obtain ⟨W7, rfl⟩ : ∃ W7 : World, W7 = wr := ⟨_, rfl⟩
                have hb7 := b5.trans (hw7.mono b5.size)
                go_wp2_with (at_len; refine wpList_len_own _ rfl _ 73 rfl 3 76 Tryz.underlying73 rawElem (w5.heap.size + 1) n D0 rfl hown0 ?_; rw [Hs0.out])
                clear hown0 Hs0
                go_loopw [16, 112] (fun ll kk wr => ∃ (k : Nat) (pv : Int), k ≤ P.length ∧ kk = .int .i64 k ∧ ll = .int .i64 pv ∧ Hid (pv = prevP P k) ∧ Below W7.heap.size W7 wr) (fun _ kk _ => P.length - (intOf kk).toNat)
                case atStart => exact ⟨0, -1, Nat.zero_le _, rfl, rfl, Lib.hid (prevP_zero _).symm, Below.refl _ _⟩
                case round =>
                  obtain ⟨k, pv, hk, rfl, rfl, hpv, hb8⟩ := hrel
                  by_cases hkt : k < P.length
                  · as_aux_lemma =>
                    have hkl : (k : Int) < (P.length : Int) := by omega
                    obtain ⟨bh, oh, rfl, hbh, A9, c9, hc9, hI9⟩ := ((HL5.out.later hw7).later hb8) k (by simpa using hkt)
                    simp only [List.getElem_map] at hc9 hI9
                    have HE := Lib.hid (fun nx (hh : NextK (· ∈ P) pv nx) => nextK_end HP.out (fun p hp => (HP0.out p hp).1) hkt (hpv.out ▸ hh))
                    have HPS := Lib.hid (prevP_step hkt)
                    have hpk := HP0.out _ (List.getElem_mem hkt)
                    have HVn := Lib.hid ((HPm.out _).1 (List.getElem_mem hkt))
                    generalize P[k] = pk at *
                    have hA8 := HA.out.more (grown_of_below hb8)
                    obtain ⟨D, hownD, hatD⟩ := hA8.map
                    have HatD := Lib.hid hatD
                    have HS0 := Lib.hid (fun p => show ¬ seenK (fun z => (G z).isSome) (has D) p from fun ⟨h1, h2⟩ => by have h3 : (G (.int .i64 p)).isSome = true := h1; rw [has_some hatD, h3] at h2; cases h2)
                    obtain ⟨wo, rfl⟩ : ∃ wo : World, wo = wr := ⟨_, rfl⟩
                    clear hA8 hatD
                    go_wp2_with (at_range; refine wpList_range_own _ rfl _ 73 rfl 3 76 (int_keyed Tryz.underlying3) Tryz.underlying73 rawElem (w5.heap.size + 1) n D rfl hownD ?_; intro w0 hrg0 hg0 hs0)
                    go_frame
                    have hw0 : Below wo.heap.size wo w0 := (Below.refl wo.heap.size wo).grown hg0 (Nat.le_refl _) (fun k e => by cases e)
                    have HR0 := Lib.hid hrg0
                    clear hownD hg0 hs0 hrg0
                    go_loopw [19] (fun pp wi => ∃ (nx : Int) (left : Lit → Bool) (cnt : Nat), pp = .int .i64 nx ∧ Hid (wi.ranges Tryz.prog 3 rawElem (w5.heap.size + 1) wo.heap.size n D left cnt ∧ NextK (seenK (fun z => (G z).isSome) left) pv nx ∧ Below wo.heap.size wo wi)) (fun _ wi => wi.rangeLeft (w5.heap.size + 1) wo.heap.size)
                    case atStart => exact ⟨-1, _, _, rfl, Lib.hid ⟨HR0.out, NextK.none_ HS0.out _, hw0⟩⟩
                    case round =>
                      obtain ⟨nx, left, cnt, rfl, hR4⟩ := hrel
                      obtain ⟨hrg, hNK, hb9⟩ := hR4.out
                      clear hR4 HR0 hw0
                      have Hrg := Lib.hid hrg
                      have HNK := Lib.hid hNK
                      clear hNK
                      go_wp2_with (at_next; go_loud (refine wpList_next_ranges _ rfl _ rfl 3 (int_keyed Tryz.underlying3) rawElem (Value.int .i64) (fun u : Value => u) intKeyShape rawShape (w5.heap.size + 1) wo.heap.size n D left cnt rfl Hrg.out ?_ ?_))
                      · as_aux_lemma =>
                        intro _ hl0
                        obtain rfl : nx = pk := HE.out nx (HNK.out.congr fun p => (seenK_end hl0 p).trans (HGs.out p).symm)
                        clear hl0 hrg Hrg HNK
                        obtain ⟨bi, hbi, hmi, hbB⟩ := (HA.out.more (grown_of_below (hb8.trans (hb9.mono hb8.size)))).some_ nx (fun e => by
                          apply HVn.out
                          rw [List.eq_nil_iff_forall_not_mem] at e ⊢
                          exact fun m hm => e m ((HW.out nx m).2 hm))
                        have wfn : (Lit.int .i64 nx).wf = true := WalkArith.wf_i64 (by omega)
                        have hb11 := hb8.trans (hb9.mono hb8.size)
                        have look73 := (HA.out.more (grown_of_below hb11)).map.look (int_keyed Tryz.underlying3) Tryz.underlying73 (mapsZero _) (keyOf_int_mk Tryz.underlying3 wfn)
                        rw [hbi, Option.getD_some] at look73
                        obtain ⟨D2, hown2, hat2⟩ := (show ∃ D, _ from hmi)
                        have hsn : ∀ m, m ∈ V nx ↔ (seenG (whoAt (logL day (l.map RD.r)) nx) (.int .i64 m)).isSome = true := fun m => by
                          rw [← HW.out nx m]
                          have := seenG_at (whoAt (logL day (l.map RD.r)) nx) m
                          unfold seenG
                          by_cases hm : m ∈ whoAt (logL day (l.map RD.r)) nx
                          · rw [if_pos ⟨m, hm, rfl⟩]; simp [hm]
                          · rw [if_neg (by rintro ⟨q, hq, e⟩; injection e with _ e; subst e; exact hm hq)]; simp [hm]
                        have Hs2 := Lib.hid (size_of hown2 hat2 (strict_nodup (HI.out nx)) hsn)
                        have Hsn := Lib.hid hsn
                        have Hbi := Lib.hid hbi
                        have Hmi := Lib.hid hmi
                        clear hat2 hsn hbi hmi
                        go_wp2_with (at_len; refine wpList_len_own _ rfl _ 76 rfl 3 4 Tryz.underlying76 rawElem bi _ D2 rfl hown2 ?_; rw [Hs2.out])
                        -- the last loop
                        obtain ⟨w9, rfl⟩ : ∃ w9 : World, w9 = wr := ⟨_, rfl⟩
                        have hI10 := (hI9.below hb9).more hb9.size
                        have hgo := HV24.out nx
                        go_loopw [145] (fun jj wr => ∃ (j : Nat) (z : Int), j ≤ (V nx).length ∧ z = j ∧ jj = .int .i64 z ∧ Below w9.heap.size w9 wr) (fun jj _ => (V nx).length - (intOf jj).toNat)
                        case atStart => exact ⟨0, 0, Nat.zero_le _, rfl, rfl, Below.refl _ _⟩
                        case round =>
                          obtain ⟨j, z, hj, hzj, rfl, hb12⟩ := hrel
                          by_cases hjt : j < (V nx).length
                          · as_aux_lemma =>
                            have hbn := hb11.trans (hb12.mono hb11.size)
                            have hI11 := (hI10.below hb12).more hb12.size
                            obtain ⟨bq, oq, rfl, hbq, hcj⟩ := hI11 j hjt
                            have h0lt : 0 < (V nx).length := Nat.lt_of_le_of_lt (Nat.zero_le _) hjt
                            have hc0 : wr.cell? ⟨bq, oq, none⟩ = some (.int .i64 ((V nx)[0]'h0lt)) := by
                              obtain ⟨_, _, e0, _, e1⟩ := hI11 0 h0lt
                              cases e0
                              exact e1
                            obtain ⟨x, hx, ex⟩ := HB.out nx _ (List.getElem_mem hjt)
                            obtain ⟨y, hy, ey⟩ := HB.out nx _ (List.getElem_mem h0lt)
                            have hin := (Hsn.out _).1 (List.getElem_mem hjt)
                            have wfa : ∀ z ∈ l, (Lit.int .i64 z.r.id).wf = true := fun z hz => WalkArith.wf_i64 (by have hrz := Hrec.out z hz; simp only [recB, Bool.and_eq_true] at hrz; have := hrz.1.1.1.1.1; simp [inB] at this; omega)
                            have HXl : Hid (∀ W, Below W7.heap.size W7 W → (Instr.lookup 68 (.map (some w5.heap.size)) (.int .i64 x.r.id) false).run Tryz.prog W = .ok (.agg #[.int .i64 x.r.id, .slice x.A x.r.names.length x.c, .int .u8 x.r.suf, .int .i64 x.r.lo, .int .i64 x.r.hi, .string x.r.num, .bool x.r.twin, .slice x.D x.r.stays.length x.d]) W) := Lib.hid (fun W hW => by
                              have q := (Hby.out.below hW Hby.out.lt).look (int_keyed Tryz.underlying3) Tryz.underlying68 (recZero _) (keyOf_int_mk Tryz.underlying3 (wfa x hx))
                              rw [byG_get Hnd.out hx, Option.getD_some] at q
                              exact q)
                            have HYl : Hid (∀ W, Below W7.heap.size W7 W → (Instr.lookup 68 (.map (some w5.heap.size)) (.int .i64 y.r.id) false).run Tryz.prog W = .ok (.agg #[.int .i64 y.r.id, .slice y.A y.r.names.length y.c, .int .u8 y.r.suf, .int .i64 y.r.lo, .int .i64 y.r.hi, .string y.r.num, .bool y.r.twin, .slice y.D y.r.stays.length y.d]) W) := Lib.hid (fun W hW => by
                              have q := (Hby.out.below hW Hby.out.lt).look (int_keyed Tryz.underlying3) Tryz.underlying68 (recZero _) (keyOf_int_mk Tryz.underlying3 (wfa y hy))
                              rw [byG_get Hnd.out hy, Option.getD_some] at q
                              exact q)
                            have look73 := (HA.out.more (grown_of_below hbn)).map.look (int_keyed Tryz.underlying3) Tryz.underlying73 (mapsZero _) (keyOf_int_mk Tryz.underlying3 wfn)
                            rw [Hbi.out, Option.getD_some] at look73
                            have look76 := (Hmi.out.below hb12 Hmi.out.lt).look (int_keyed Tryz.underlying3) Tryz.underlying76 (boolZero _) (keyOf_int_mk Tryz.underlying3 (wfa x hx))
                            rw [show (seenG (whoAt (logL day (l.map RD.r)) nx) (.int .i64 x.r.id)).getD (.bool false) = .bool true by
                              rw [seenG_at, decide_eq_true ((HW.out nx _).2 (by rw [ex]; exact List.getElem_mem hjt))]] at look76
                            rw [← ex] at hcj
                            rw [← ey] at hc0
                            have hzl : z < ((V nx).length : Int) := by omega
                            rcases Nat.eq_zero_or_pos j with rfl | hj0
                            · as_aux_lemma =>
                              obtain rfl : z = 0 := by simpa using hzj
                              have hg0 : decide ((0 : Int) < 0) = false := by decide
                              obtain rfl : x = y := id_inj Hnd.out hx hy (ex.trans ey.symm)
                              clear hin wfa hzj hI11 hcj ey
                              have Hex := Lib.hid ex
                              clear ex
                              go_upto_region 44 with fail
                              have lx0 : (Instr.lookup 68 (.map (some w5.heap.size)) (.int .i64 x.r.id) false).run Tryz.prog (wr) = .ok (.agg #[.int .i64 x.r.id, .slice x.A x.r.names.length x.c, .int .u8 x.r.suf, .int .i64 x.r.lo, .int .i64 x.r.hi, .string x.r.num, .bool x.r.twin, .slice x.D x.r.stays.length x.d]) (wr) := HXl.out _ hbn
                              have lx1 : ∀ o, (Instr.lookup 68 (.map (some w5.heap.size)) (.int .i64 x.r.id) false).run Tryz.prog ((wr.alloc o)) = .ok (.agg #[.int .i64 x.r.id, .slice x.A x.r.names.length x.c, .int .u8 x.r.suf, .int .i64 x.r.lo, .int .i64 x.r.hi, .string x.r.num, .bool x.r.twin, .slice x.D x.r.stays.length x.d]) ((wr.alloc o)) := fun o => HXl.out _ (hbn.trans (((Below.refl wr.heap.size wr).alloc (Nat.le_refl _) o).mono hbn.size))
                              have lx2 : ∀ o o', (Instr.lookup 68 (.map (some w5.heap.size)) (.int .i64 x.r.id) false).run Tryz.prog (((wr.alloc o).alloc o')) = .ok (.agg #[.int .i64 x.r.id, .slice x.A x.r.names.length x.c, .int .u8 x.r.suf, .int .i64 x.r.lo, .int .i64 x.r.hi, .string x.r.num, .bool x.r.twin, .slice x.D x.r.stays.length x.d]) (((wr.alloc o).alloc o')) := fun o o' => HXl.out _ (hbn.trans ((((Below.refl wr.heap.size wr).alloc (Nat.le_refl _) o).alloc (by simp) o').mono hbn.size))
                              have lx3 : (Instr.lookup 68 (.map (some w5.heap.size)) (.int .i64 x.r.id) false).run Tryz.prog (wr.drew) = .ok (.agg #[.int .i64 x.r.id, .slice x.A x.r.names.length x.c, .int .u8 x.r.suf, .int .i64 x.r.lo, .int .i64 x.r.hi, .string x.r.num, .bool x.r.twin, .slice x.D x.r.stays.length x.d]) (wr.drew) := HXl.out _ (hbn.trans (((Below.refl wr.heap.size wr).drew).mono hbn.size))
                              have lx4 : ∀ o, (Instr.lookup 68 (.map (some w5.heap.size)) (.int .i64 x.r.id) false).run Tryz.prog ((wr.alloc o).drew) = .ok (.agg #[.int .i64 x.r.id, .slice x.A x.r.names.length x.c, .int .u8 x.r.suf, .int .i64 x.r.lo, .int .i64 x.r.hi, .string x.r.num, .bool x.r.twin, .slice x.D x.r.stays.length x.d]) ((wr.alloc o).drew) := fun o => HXl.out _ (hbn.trans (((Below.refl wr.heap.size wr).alloc (Nat.le_refl _) o).drew.mono hbn.size))
                              have lx5 : ∀ o o', (Instr.lookup 68 (.map (some w5.heap.size)) (.int .i64 x.r.id) false).run Tryz.prog (((wr.alloc o).alloc o').drew) = .ok (.agg #[.int .i64 x.r.id, .slice x.A x.r.names.length x.c, .int .u8 x.r.suf, .int .i64 x.r.lo, .int .i64 x.r.hi, .string x.r.num, .bool x.r.twin, .slice x.D x.r.stays.length x.d]) (((wr.alloc o).alloc o').drew) := fun o o' => HXl.out _ (hbn.trans ((((Below.refl wr.heap.size wr).alloc (Nat.le_refl _) o).alloc (by simp) o').drew.mono hbn.size))
                              have c01 : ∀ o, (wr.alloc o).cell? ⟨bq, oq, none⟩ = some (.int .i64 x.r.id) := fun o => (((Below.refl wr.heap.size wr).alloc (Nat.le_refl _) o).cell (p := ⟨bq, oq, none⟩) hbq).trans hc0
                              have c02 : ∀ o o', ((wr.alloc o).alloc o').cell? ⟨bq, oq, none⟩ = some (.int .i64 x.r.id) := fun o o' => ((((Below.refl wr.heap.size wr).alloc (Nat.le_refl _) o).alloc (by simp) o').cell (p := ⟨bq, oq, none⟩) hbq).trans hc0
                              go_region
                              · as_aux_lemma =>
                                clear lx0 lx1 lx2 lx3 lx4 lx5 c01 c02
                                have hbc : Below wr.heap.size wr (((wr.alloc (.cells #[.int .i64 x.r.id, .slice x.A x.r.names.length x.c, .int .u8 x.r.suf, .int .i64 x.r.lo, .int .i64 x.r.hi, .string x.r.num, .bool x.r.twin, .slice x.D x.r.stays.length x.d] 47)).alloc (.cells #[.int .i64 x.r.id, .slice x.A x.r.names.length x.c, .int .u8 x.r.suf, .int .i64 x.r.lo, .int .i64 x.r.hi, .string x.r.num, .bool x.r.twin, .slice x.D x.r.stays.length x.d] 47)).drew) := (((Below.refl wr.heap.size wr).alloc (Nat.le_refl _) _).alloc (by simp) _).drew
                                have hK1 : Blk (((wr.alloc (.cells #[.int .i64 x.r.id, .slice x.A x.r.names.length x.c, .int .u8 x.r.suf, .int .i64 x.r.lo, .int .i64 x.r.hi, .string x.r.num, .bool x.r.twin, .slice x.D x.r.stays.length x.d] 47)).alloc (.cells #[.int .i64 x.r.id, .slice x.A x.r.names.length x.c, .int .u8 x.r.suf, .int .i64 x.r.lo, .int .i64 x.r.hi, .string x.r.num, .bool x.r.twin, .slice x.D x.r.stays.length x.d] 47)).drew) wr.heap.size #[.int .i64 x.r.id, .slice x.A x.r.names.length x.c, .int .u8 x.r.suf, .int .i64 x.r.lo, .int .i64 x.r.hi, .string x.r.num, .bool x.r.twin, .slice x.D x.r.stays.length x.d] 47 := ((Blk.new wr #[.int .i64 x.r.id, .slice x.A x.r.names.length x.c, .int .u8 x.r.suf, .int .i64 x.r.lo, .int .i64 x.r.hi, .string x.r.num, .bool x.r.twin, .slice x.D x.r.stays.length x.d] 47).alloc _).drew
                                have hK2 : Blk (((wr.alloc (.cells #[.int .i64 x.r.id, .slice x.A x.r.names.length x.c, .int .u8 x.r.suf, .int .i64 x.r.lo, .int .i64 x.r.hi, .string x.r.num, .bool x.r.twin, .slice x.D x.r.stays.length x.d] 47)).alloc (.cells #[.int .i64 x.r.id, .slice x.A x.r.names.length x.c, .int .u8 x.r.suf, .int .i64 x.r.lo, .int .i64 x.r.hi, .string x.r.num, .bool x.r.twin, .slice x.D x.r.stays.length x.d] 47)).drew) (wr.heap.size + 1) #[.int .i64 x.r.id, .slice x.A x.r.names.length x.c, .int .u8 x.r.suf, .int .i64 x.r.lo, .int .i64 x.r.hi, .string x.r.num, .bool x.r.twin, .slice x.D x.r.stays.length x.d] 47 := (newAt' (wr.alloc (.cells #[.int .i64 x.r.id, .slice x.A x.r.names.length x.c, .int .u8 x.r.suf, .int .i64 x.r.lo, .int .i64 x.r.hi, .string x.r.num, .bool x.r.twin, .slice x.D x.r.stays.length x.d] 47)) #[.int .i64 x.r.id, .slice x.A x.r.names.length x.c, .int .u8 x.r.suf, .int .i64 x.r.lo, .int .i64 x.r.hi, .string x.r.num, .bool x.r.twin, .slice x.D x.r.stays.length x.d] 47 (World.size_alloc _ _).symm).drew
                                generalize ((wr.alloc (.cells #[.int .i64 x.r.id, .slice x.A x.r.names.length x.c, .int .u8 x.r.suf, .int .i64 x.r.lo, .int .i64 x.r.hi, .string x.r.num, .bool x.r.twin, .slice x.D x.r.stays.length x.d] 47)).alloc (.cells #[.int .i64 x.r.id, .slice x.A x.r.names.length x.c, .int .u8 x.r.suf, .int .i64 x.r.lo, .int .i64 x.r.hi, .string x.r.num, .bool x.r.twin, .slice x.D x.r.stays.length x.d] 47)).drew = W8 at *
                                have kc1 := hK1.cell
                                have kc2 := hK2.cell
                                have hb8' := hbn.trans (hbc.mono hbn.size)
                                have krc := (k5.below (hw7.trans (hb8'.mono hw7.size)) k5.lt).cell
                                have hxr := (Hl5.of_mem hx)
                                have hyr := (Hl5.of_mem hy)
                                have hE : cmpE u x.r x.r = 0 := by simp [cmpE, hR, Hrec.out x hx]
                                have HC := Lib.hid ((cmpM_good hE) ▸ hE ▸ compare_any u x.r x.r x.A x.A x.D x.D x.c x.c x.d x.d W8 (hsuf x hx) (hsuf x hy) (hxr.1.later (hw7.trans (hb8'.mono hw7.size))) (hyr.1.later (hw7.trans (hb8'.mono hw7.size))) hxr.2 hyr.2)
                                have hMn : (matF u x.r x.r).one = 2 → 2 ≤ (matF u x.r x.r).names := one_names
                                generalize matF u x.r x.r = M at HC hMn
                                clear hE hxr hyr hK1 hK2
                                have hbq8 : bq < W8.heap.size := Nat.lt_of_lt_of_le hbq hbc.size
                                have hc8 := (hbc.cell (p := ⟨bq, oq, none⟩) hbq).trans hc0
                                go_wp2_with (go_at_call 23; (with_reducible refine (HC.out).mono ?_); rintro e w10 ⟨rfl, h10⟩; have c10 : ∀ o, (w10.alloc o).cell? ⟨bq, oq, none⟩ = some (.int .i64 x.r.id) := fun o => (((h10.alloc h10.size o).cell (p := ⟨bq, oq, none⟩) hbq8).trans hc8); have hfin := hb12.trans ((hbc.trans (h10.mono hbc.size)).mono hb12.size))
                                go_roundw
                                case rel => exact ⟨0 + 1, _, by omega, by first | rfl | omega | simp, rfl, hfin.alloc hfin.size _⟩
                                case measure => simp [intOf]; omega
                              · as_aux_lemma =>
                                clear lx0 lx1 lx2 lx3 lx4 lx5 c01 c02
                                have hbc : Below wr.heap.size wr (((wr.alloc (.cells #[.int .i64 x.r.id, .slice x.A x.r.names.length x.c, .int .u8 x.r.suf, .int .i64 x.r.lo, .int .i64 x.r.hi, .string x.r.num, .bool x.r.twin, .slice x.D x.r.stays.length x.d] 47)).alloc (.cells #[.int .i64 x.r.id, .slice x.A x.r.names.length x.c, .int .u8 x.r.suf, .int .i64 x.r.lo, .int .i64 x.r.hi, .string x.r.num, .bool x.r.twin, .slice x.D x.r.stays.length x.d] 47)).drew) := (((Below.refl wr.heap.size wr).alloc (Nat.le_refl _) _).alloc (by simp) _).drew
                                have hK1 : Blk (((wr.alloc (.cells #[.int .i64 x.r.id, .slice x.A x.r.names.length x.c, .int .u8 x.r.suf, .int .i64 x.r.lo, .int .i64 x.r.hi, .string x.r.num, .bool x.r.twin, .slice x.D x.r.stays.length x.d] 47)).alloc (.cells #[.int .i64 x.r.id, .slice x.A x.r.names.length x.c, .int .u8 x.r.suf, .int .i64 x.r.lo, .int .i64 x.r.hi, .string x.r.num, .bool x.r.twin, .slice x.D x.r.stays.length x.d] 47)).drew) wr.heap.size #[.int .i64 x.r.id, .slice x.A x.r.names.length x.c, .int .u8 x.r.suf, .int .i64 x.r.lo, .int .i64 x.r.hi, .string x.r.num, .bool x.r.twin, .slice x.D x.r.stays.length x.d] 47 := ((Blk.new wr #[.int .i64 x.r.id, .slice x.A x.r.names.length x.c, .int .u8 x.r.suf, .int .i64 x.r.lo, .int .i64 x.r.hi, .string x.r.num, .bool x.r.twin, .slice x.D x.r.stays.length x.d] 47).alloc _).drew
                                have hK2 : Blk (((wr.alloc (.cells #[.int .i64 x.r.id, .slice x.A x.r.names.length x.c, .int .u8 x.r.suf, .int .i64 x.r.lo, .int .i64 x.r.hi, .string x.r.num, .bool x.r.twin, .slice x.D x.r.stays.length x.d] 47)).alloc (.cells #[.int .i64 x.r.id, .slice x.A x.r.names.length x.c, .int .u8 x.r.suf, .int .i64 x.r.lo, .int .i64 x.r.hi, .string x.r.num, .bool x.r.twin, .slice x.D x.r.stays.length x.d] 47)).drew) (wr.heap.size + 1) #[.int .i64 x.r.id, .slice x.A x.r.names.length x.c, .int .u8 x.r.suf, .int .i64 x.r.lo, .int .i64 x.r.hi, .string x.r.num, .bool x.r.twin, .slice x.D x.r.stays.length x.d] 47 := (newAt' (wr.alloc (.cells #[.int .i64 x.r.id, .slice x.A x.r.names.length x.c, .int .u8 x.r.suf, .int .i64 x.r.lo, .int .i64 x.r.hi, .string x.r.num, .bool x.r.twin, .slice x.D x.r.stays.length x.d] 47)) #[.int .i64 x.r.id, .slice x.A x.r.names.length x.c, .int .u8 x.r.suf, .int .i64 x.r.lo, .int .i64 x.r.hi, .string x.r.num, .bool x.r.twin, .slice x.D x.r.stays.length x.d] 47 (World.size_alloc _ _).symm).drew
                                generalize ((wr.alloc (.cells #[.int .i64 x.r.id, .slice x.A x.r.names.length x.c, .int .u8 x.r.suf, .int .i64 x.r.lo, .int .i64 x.r.hi, .string x.r.num, .bool x.r.twin, .slice x.D x.r.stays.length x.d] 47)).alloc (.cells #[.int .i64 x.r.id, .slice x.A x.r.names.length x.c, .int .u8 x.r.suf, .int .i64 x.r.lo, .int .i64 x.r.hi, .string x.r.num, .bool x.r.twin, .slice x.D x.r.stays.length x.d] 47)).drew = W8 at *
                                have kc1 := hK1.cell
                                have kc2 := hK2.cell
                                have hb8' := hbn.trans (hbc.mono hbn.size)
                                have krc := (k5.below (hw7.trans (hb8'.mono hw7.size)) k5.lt).cell
                                have hxr := (Hl5.of_mem hx)
                                have hyr := (Hl5.of_mem hy)
                                have hE : cmpE u x.r x.r = 0 := by simp [cmpE, hR, Hrec.out x hx]
                                have HC := Lib.hid ((cmpM_good hE) ▸ hE ▸ compare_any u x.r x.r x.A x.A x.D x.D x.c x.c x.d x.d W8 (hsuf x hx) (hsuf x hy) (hxr.1.later (hw7.trans (hb8'.mono hw7.size))) (hyr.1.later (hw7.trans (hb8'.mono hw7.size))) hxr.2 hyr.2)
                                have hMn : (matF u x.r x.r).one = 2 → 2 ≤ (matF u x.r x.r).names := one_names
                                generalize matF u x.r x.r = M at HC hMn
                                clear hE hxr hyr hK1 hK2
                                have hbq8 : bq < W8.heap.size := Nat.lt_of_lt_of_le hbq hbc.size
                                have hc8 := (hbc.cell (p := ⟨bq, oq, none⟩) hbq).trans hc0
                                go_wp2_with (go_at_call 23; (with_reducible refine (HC.out).mono ?_); rintro e w10 ⟨rfl, h10⟩; have c10 : ∀ o, (w10.alloc o).cell? ⟨bq, oq, none⟩ = some (.int .i64 x.r.id) := fun o => (((h10.alloc h10.size o).cell (p := ⟨bq, oq, none⟩) hbq8).trans hc8); have hfin := hb12.trans ((hbc.trans (h10.mono hbc.size)).mono hb12.size))
                                go_roundw
                                case rel => exact ⟨0 + 1, _, by omega, by first | rfl | omega | simp, rfl, hfin.alloc hfin.size _⟩
                                case measure => simp [intOf]; omega
                            · as_aux_lemma =>
                              obtain ⟨m, rfl⟩ : ∃ m, j = m + 1 := ⟨j - 1, by omega⟩
                              obtain rfl : z = (m : Int) + 1 := by omega
                              have hmlt : m < (V nx).length := Nat.lt_of_succ_lt hjt
                              have hcm : wr.cell? ⟨bq, oq + m, none⟩ = some (.int .i64 ((V nx)[m]'hmlt)) := by
                                obtain ⟨_, _, e0, _, e1⟩ := hI11 m hmlt
                                cases e0
                                exact e1
                              have hlt2 : ¬ x.r.id ≤ (V nx)[m]'hmlt := by have := (List.pairwise_iff_getElem.1 (HI.out nx)) m (m + 1) (by omega) hjt (by omega); rw [ex]; omega
                              have e1 : ((m : Int) + 1).toNat = m + 1 := by omega
                              have e2 : IntKind.i64.wrap ((m : Int) + 1 - 1) = (m : Int) := by rw [show (m : Int) + 1 - 1 = m by omega]; exact IntWalk.i64_in _ (by omega)
                              have e3 : ((m : Int) + 1 - 1) = (m : Int) := by omega
                              have hg0 : decide ((0 : Int) < (m : Int) + 1) = true := decide_eq_true (by omega)
                              have e4 : (0 : Int) < (m : Int) + 1 := by omega
                              have hml : (m : Int) < ((V nx).length : Int) := by omega
                              clear hin wfa hzj hI11
                              generalize (V nx)[m]'hmlt = am at *
                              have Hex := Lib.hid ex
                              have Hey := Lib.hid ey
                              clear ex ey
                              go_upto_region 44 with fail
                              have lx0 : (Instr.lookup 68 (.map (some w5.heap.size)) (.int .i64 x.r.id) false).run Tryz.prog (wr) = .ok (.agg #[.int .i64 x.r.id, .slice x.A x.r.names.length x.c, .int .u8 x.r.suf, .int .i64 x.r.lo, .int .i64 x.r.hi, .string x.r.num, .bool x.r.twin, .slice x.D x.r.stays.length x.d]) (wr) := HXl.out _ hbn
                              have lx1 : ∀ o, (Instr.lookup 68 (.map (some w5.heap.size)) (.int .i64 x.r.id) false).run Tryz.prog ((wr.alloc o)) = .ok (.agg #[.int .i64 x.r.id, .slice x.A x.r.names.length x.c, .int .u8 x.r.suf, .int .i64 x.r.lo, .int .i64 x.r.hi, .string x.r.num, .bool x.r.twin, .slice x.D x.r.stays.length x.d]) ((wr.alloc o)) := fun o => HXl.out _ (hbn.trans (((Below.refl wr.heap.size wr).alloc (Nat.le_refl _) o).mono hbn.size))
                              have lx2 : ∀ o o', (Instr.lookup 68 (.map (some w5.heap.size)) (.int .i64 x.r.id) false).run Tryz.prog (((wr.alloc o).alloc o')) = .ok (.agg #[.int .i64 x.r.id, .slice x.A x.r.names.length x.c, .int .u8 x.r.suf, .int .i64 x.r.lo, .int .i64 x.r.hi, .string x.r.num, .bool x.r.twin, .slice x.D x.r.stays.length x.d]) (((wr.alloc o).alloc o')) := fun o o' => HXl.out _ (hbn.trans ((((Below.refl wr.heap.size wr).alloc (Nat.le_refl _) o).alloc (by simp) o').mono hbn.size))
                              have lx3 : (Instr.lookup 68 (.map (some w5.heap.size)) (.int .i64 x.r.id) false).run Tryz.prog (wr.drew) = .ok (.agg #[.int .i64 x.r.id, .slice x.A x.r.names.length x.c, .int .u8 x.r.suf, .int .i64 x.r.lo, .int .i64 x.r.hi, .string x.r.num, .bool x.r.twin, .slice x.D x.r.stays.length x.d]) (wr.drew) := HXl.out _ (hbn.trans (((Below.refl wr.heap.size wr).drew).mono hbn.size))
                              have lx4 : ∀ o, (Instr.lookup 68 (.map (some w5.heap.size)) (.int .i64 x.r.id) false).run Tryz.prog ((wr.alloc o).drew) = .ok (.agg #[.int .i64 x.r.id, .slice x.A x.r.names.length x.c, .int .u8 x.r.suf, .int .i64 x.r.lo, .int .i64 x.r.hi, .string x.r.num, .bool x.r.twin, .slice x.D x.r.stays.length x.d]) ((wr.alloc o).drew) := fun o => HXl.out _ (hbn.trans (((Below.refl wr.heap.size wr).alloc (Nat.le_refl _) o).drew.mono hbn.size))
                              have lx5 : ∀ o o', (Instr.lookup 68 (.map (some w5.heap.size)) (.int .i64 x.r.id) false).run Tryz.prog (((wr.alloc o).alloc o').drew) = .ok (.agg #[.int .i64 x.r.id, .slice x.A x.r.names.length x.c, .int .u8 x.r.suf, .int .i64 x.r.lo, .int .i64 x.r.hi, .string x.r.num, .bool x.r.twin, .slice x.D x.r.stays.length x.d]) (((wr.alloc o).alloc o').drew) := fun o o' => HXl.out _ (hbn.trans ((((Below.refl wr.heap.size wr).alloc (Nat.le_refl _) o).alloc (by simp) o').drew.mono hbn.size))
                              have ly0 : (Instr.lookup 68 (.map (some w5.heap.size)) (.int .i64 y.r.id) false).run Tryz.prog (wr) = .ok (.agg #[.int .i64 y.r.id, .slice y.A y.r.names.length y.c, .int .u8 y.r.suf, .int .i64 y.r.lo, .int .i64 y.r.hi, .string y.r.num, .bool y.r.twin, .slice y.D y.r.stays.length y.d]) (wr) := HYl.out _ hbn
                              have ly1 : ∀ o, (Instr.lookup 68 (.map (some w5.heap.size)) (.int .i64 y.r.id) false).run Tryz.prog ((wr.alloc o)) = .ok (.agg #[.int .i64 y.r.id, .slice y.A y.r.names.length y.c, .int .u8 y.r.suf, .int .i64 y.r.lo, .int .i64 y.r.hi, .string y.r.num, .bool y.r.twin, .slice y.D y.r.stays.length y.d]) ((wr.alloc o)) := fun o => HYl.out _ (hbn.trans (((Below.refl wr.heap.size wr).alloc (Nat.le_refl _) o).mono hbn.size))
                              have ly2 : ∀ o o', (Instr.lookup 68 (.map (some w5.heap.size)) (.int .i64 y.r.id) false).run Tryz.prog (((wr.alloc o).alloc o')) = .ok (.agg #[.int .i64 y.r.id, .slice y.A y.r.names.length y.c, .int .u8 y.r.suf, .int .i64 y.r.lo, .int .i64 y.r.hi, .string y.r.num, .bool y.r.twin, .slice y.D y.r.stays.length y.d]) (((wr.alloc o).alloc o')) := fun o o' => HYl.out _ (hbn.trans ((((Below.refl wr.heap.size wr).alloc (Nat.le_refl _) o).alloc (by simp) o').mono hbn.size))
                              have ly3 : (Instr.lookup 68 (.map (some w5.heap.size)) (.int .i64 y.r.id) false).run Tryz.prog (wr.drew) = .ok (.agg #[.int .i64 y.r.id, .slice y.A y.r.names.length y.c, .int .u8 y.r.suf, .int .i64 y.r.lo, .int .i64 y.r.hi, .string y.r.num, .bool y.r.twin, .slice y.D y.r.stays.length y.d]) (wr.drew) := HYl.out _ (hbn.trans (((Below.refl wr.heap.size wr).drew).mono hbn.size))
                              have ly4 : ∀ o, (Instr.lookup 68 (.map (some w5.heap.size)) (.int .i64 y.r.id) false).run Tryz.prog ((wr.alloc o).drew) = .ok (.agg #[.int .i64 y.r.id, .slice y.A y.r.names.length y.c, .int .u8 y.r.suf, .int .i64 y.r.lo, .int .i64 y.r.hi, .string y.r.num, .bool y.r.twin, .slice y.D y.r.stays.length y.d]) ((wr.alloc o).drew) := fun o => HYl.out _ (hbn.trans (((Below.refl wr.heap.size wr).alloc (Nat.le_refl _) o).drew.mono hbn.size))
                              have ly5 : ∀ o o', (Instr.lookup 68 (.map (some w5.heap.size)) (.int .i64 y.r.id) false).run Tryz.prog (((wr.alloc o).alloc o').drew) = .ok (.agg #[.int .i64 y.r.id, .slice y.A y.r.names.length y.c, .int .u8 y.r.suf, .int .i64 y.r.lo, .int .i64 y.r.hi, .string y.r.num, .bool y.r.twin, .slice y.D y.r.stays.length y.d]) (((wr.alloc o).alloc o').drew) := fun o o' => HYl.out _ (hbn.trans ((((Below.refl wr.heap.size wr).alloc (Nat.le_refl _) o).alloc (by simp) o').drew.mono hbn.size))
                              have c01 : ∀ o, (wr.alloc o).cell? ⟨bq, oq, none⟩ = some (.int .i64 y.r.id) := fun o => (((Below.refl wr.heap.size wr).alloc (Nat.le_refl _) o).cell (p := ⟨bq, oq, none⟩) hbq).trans hc0
                              have c02 : ∀ o o', ((wr.alloc o).alloc o').cell? ⟨bq, oq, none⟩ = some (.int .i64 y.r.id) := fun o o' => ((((Below.refl wr.heap.size wr).alloc (Nat.le_refl _) o).alloc (by simp) o').cell (p := ⟨bq, oq, none⟩) hbq).trans hc0
                              go_region
                              · as_aux_lemma =>
                                clear lx0 lx1 lx2 lx3 lx4 lx5 ly0 ly1 ly2 ly3 ly4 ly5 c01 c02
                                have hbc : Below wr.heap.size wr (((wr.alloc (.cells #[.int .i64 x.r.id, .slice x.A x.r.names.length x.c, .int .u8 x.r.suf, .int .i64 x.r.lo, .int .i64 x.r.hi, .string x.r.num, .bool x.r.twin, .slice x.D x.r.stays.length x.d] 47)).alloc (.cells #[.int .i64 y.r.id, .slice y.A y.r.names.length y.c, .int .u8 y.r.suf, .int .i64 y.r.lo, .int .i64 y.r.hi, .string y.r.num, .bool y.r.twin, .slice y.D y.r.stays.length y.d] 47)).drew) := (((Below.refl wr.heap.size wr).alloc (Nat.le_refl _) _).alloc (by simp) _).drew
                                have hK1 : Blk (((wr.alloc (.cells #[.int .i64 x.r.id, .slice x.A x.r.names.length x.c, .int .u8 x.r.suf, .int .i64 x.r.lo, .int .i64 x.r.hi, .string x.r.num, .bool x.r.twin, .slice x.D x.r.stays.length x.d] 47)).alloc (.cells #[.int .i64 y.r.id, .slice y.A y.r.names.length y.c, .int .u8 y.r.suf, .int .i64 y.r.lo, .int .i64 y.r.hi, .string y.r.num, .bool y.r.twin, .slice y.D y.r.stays.length y.d] 47)).drew) wr.heap.size #[.int .i64 x.r.id, .slice x.A x.r.names.length x.c, .int .u8 x.r.suf, .int .i64 x.r.lo, .int .i64 x.r.hi, .string x.r.num, .bool x.r.twin, .slice x.D x.r.stays.length x.d] 47 := ((Blk.new wr #[.int .i64 x.r.id, .slice x.A x.r.names.length x.c, .int .u8 x.r.suf, .int .i64 x.r.lo, .int .i64 x.r.hi, .string x.r.num, .bool x.r.twin, .slice x.D x.r.stays.length x.d] 47).alloc _).drew
                                have hK2 : Blk (((wr.alloc (.cells #[.int .i64 x.r.id, .slice x.A x.r.names.length x.c, .int .u8 x.r.suf, .int .i64 x.r.lo, .int .i64 x.r.hi, .string x.r.num, .bool x.r.twin, .slice x.D x.r.stays.length x.d] 47)).alloc (.cells #[.int .i64 y.r.id, .slice y.A y.r.names.length y.c, .int .u8 y.r.suf, .int .i64 y.r.lo, .int .i64 y.r.hi, .string y.r.num, .bool y.r.twin, .slice y.D y.r.stays.length y.d] 47)).drew) (wr.heap.size + 1) #[.int .i64 y.r.id, .slice y.A y.r.names.length y.c, .int .u8 y.r.suf, .int .i64 y.r.lo, .int .i64 y.r.hi, .string y.r.num, .bool y.r.twin, .slice y.D y.r.stays.length y.d] 47 := (newAt' (wr.alloc (.cells #[.int .i64 x.r.id, .slice x.A x.r.names.length x.c, .int .u8 x.r.suf, .int .i64 x.r.lo, .int .i64 x.r.hi, .string x.r.num, .bool x.r.twin, .slice x.D x.r.stays.length x.d] 47)) #[.int .i64 y.r.id, .slice y.A y.r.names.length y.c, .int .u8 y.r.suf, .int .i64 y.r.lo, .int .i64 y.r.hi, .string y.r.num, .bool y.r.twin, .slice y.D y.r.stays.length y.d] 47 (World.size_alloc _ _).symm).drew
                                generalize ((wr.alloc (.cells #[.int .i64 x.r.id, .slice x.A x.r.names.length x.c, .int .u8 x.r.suf, .int .i64 x.r.lo, .int .i64 x.r.hi, .string x.r.num, .bool x.r.twin, .slice x.D x.r.stays.length x.d] 47)).alloc (.cells #[.int .i64 y.r.id, .slice y.A y.r.names.length y.c, .int .u8 y.r.suf, .int .i64 y.r.lo, .int .i64 y.r.hi, .string y.r.num, .bool y.r.twin, .slice y.D y.r.stays.length y.d] 47)).drew = W8 at *
                                have kc1 := hK1.cell
                                have kc2 := hK2.cell
                                have hb8' := hbn.trans (hbc.mono hbn.size)
                                have krc := (k5.below (hw7.trans (hb8'.mono hw7.size)) k5.lt).cell
                                have hxr := (Hl5.of_mem hx)
                                have hyr := (Hl5.of_mem hy)
                                have hE : cmpE u x.r y.r = 0 := by simp [cmpE, hR, Hrec.out x hx, Hrec.out y hy]
                                have HC := Lib.hid ((cmpM_good hE) ▸ hE ▸ compare_any u x.r y.r x.A y.A x.D y.D x.c y.c x.d y.d W8 (hsuf x hx) (hsuf y hy) (hxr.1.later (hw7.trans (hb8'.mono hw7.size))) (hyr.1.later (hw7.trans (hb8'.mono hw7.size))) hxr.2 hyr.2)
                                have hMn : (matF u x.r y.r).one = 2 → 2 ≤ (matF u x.r y.r).names := one_names
                                generalize matF u x.r y.r = M at HC hMn
                                clear hE hxr hyr hK1 hK2
                                have hbq8 : bq < W8.heap.size := Nat.lt_of_lt_of_le hbq hbc.size
                                have hc8 := (hbc.cell (p := ⟨bq, oq, none⟩) hbq).trans hc0
                                by_cases hid : x.r.id = y.r.id
                                · have hq1 : (x.r.id != y.r.id) = false := by simp [hid]
                                  clear hid
                                  go_wp2_with (go_at_call 23; (with_reducible refine (HC.out).mono ?_); rintro e w10 ⟨rfl, h10⟩; have c10 : ∀ o, (w10.alloc o).cell? ⟨bq, oq, none⟩ = some (.int .i64 y.r.id) := fun o => (((h10.alloc h10.size o).cell (p := ⟨bq, oq, none⟩) hbq8).trans hc8); have hfin := hb12.trans ((hbc.trans (h10.mono hbc.size)).mono hb12.size))
                                  go_roundw
                                  case rel => exact ⟨m + 1 + 1, _, by omega, by first | rfl | omega | simp, rfl, hfin.alloc hfin.size _⟩
                                  case measure => simp [intOf]; omega
                                · have hq1 : (x.r.id != y.r.id) = true := by simpa using hid
                                  clear hid
                                  by_cases h2 : M.one = 2
                                  · have hq2 : (M.one == 2) = true := by simp [h2]
                                    have hq3 : ¬ M.names < 2 := by have := hMn h2; omega
                                    clear h2 hMn
                                    go_wp2_with (go_at_call 23; (with_reducible refine (HC.out).mono ?_); rintro e w10 ⟨rfl, h10⟩; have c10 : ∀ o, (w10.alloc o).cell? ⟨bq, oq, none⟩ = some (.int .i64 y.r.id) := fun o => (((h10.alloc h10.size o).cell (p := ⟨bq, oq, none⟩) hbq8).trans hc8); have hfin := hb12.trans ((hbc.trans (h10.mono hbc.size)).mono hb12.size))
                                    go_roundw
                                    case rel => exact ⟨m + 1 + 1, _, by omega, by first | rfl | omega | simp, rfl, hfin.alloc hfin.size _⟩
                                    case measure => simp [intOf]; omega
                                  · have hq2 : (M.one == 2) = false := by simpa using h2
                                    clear h2 hMn
                                    go_wp2_with (go_at_call 23; (with_reducible refine (HC.out).mono ?_); rintro e w10 ⟨rfl, h10⟩; have c10 : ∀ o, (w10.alloc o).cell? ⟨bq, oq, none⟩ = some (.int .i64 y.r.id) := fun o => (((h10.alloc h10.size o).cell (p := ⟨bq, oq, none⟩) hbq8).trans hc8); have hfin := hb12.trans ((hbc.trans (h10.mono hbc.size)).mono hb12.size))
                                    go_roundw
                                    case rel => exact ⟨m + 1 + 1, _, by omega, by first | rfl | omega | simp, rfl, hfin.alloc hfin.size _⟩
                                    case measure => simp [intOf]; omega
                              · as_aux_lemma =>
                                clear lx0 lx1 lx2 lx3 lx4 lx5 ly0 ly1 ly2 ly3 ly4 ly5 c01 c02
                                have hbc : Below wr.heap.size wr (((wr.alloc (.cells #[.int .i64 y.r.id, .slice y.A y.r.names.length y.c, .int .u8 y.r.suf, .int .i64 y.r.lo, .int .i64 y.r.hi, .string y.r.num, .bool y.r.twin, .slice y.D y.r.stays.length y.d] 47)).alloc (.cells #[.int .i64 x.r.id, .slice x.A x.r.names.length x.c, .int .u8 x.r.suf, .int .i64 x.r.lo, .int .i64 x.r.hi, .string x.r.num, .bool x.r.twin, .slice x.D x.r.stays.length x.d] 47)).drew) := (((Below.refl wr.heap.size wr).alloc (Nat.le_refl _) _).alloc (by simp) _).drew
                                have hK1 : Blk (((wr.alloc (.cells #[.int .i64 y.r.id, .slice y.A y.r.names.length y.c, .int .u8 y.r.suf, .int .i64 y.r.lo, .int .i64 y.r.hi, .string y.r.num, .bool y.r.twin, .slice y.D y.r.stays.length y.d] 47)).alloc (.cells #[.int .i64 x.r.id, .slice x.A x.r.names.length x.c, .int .u8 x.r.suf, .int .i64 x.r.lo, .int .i64 x.r.hi, .string x.r.num, .bool x.r.twin, .slice x.D x.r.stays.length x.d] 47)).drew) wr.heap.size #[.int .i64 y.r.id, .slice y.A y.r.names.length y.c, .int .u8 y.r.suf, .int .i64 y.r.lo, .int .i64 y.r.hi, .string y.r.num, .bool y.r.twin, .slice y.D y.r.stays.length y.d] 47 := ((Blk.new wr #[.int .i64 y.r.id, .slice y.A y.r.names.length y.c, .int .u8 y.r.suf, .int .i64 y.r.lo, .int .i64 y.r.hi, .string y.r.num, .bool y.r.twin, .slice y.D y.r.stays.length y.d] 47).alloc _).drew
                                have hK2 : Blk (((wr.alloc (.cells #[.int .i64 y.r.id, .slice y.A y.r.names.length y.c, .int .u8 y.r.suf, .int .i64 y.r.lo, .int .i64 y.r.hi, .string y.r.num, .bool y.r.twin, .slice y.D y.r.stays.length y.d] 47)).alloc (.cells #[.int .i64 x.r.id, .slice x.A x.r.names.length x.c, .int .u8 x.r.suf, .int .i64 x.r.lo, .int .i64 x.r.hi, .string x.r.num, .bool x.r.twin, .slice x.D x.r.stays.length x.d] 47)).drew) (wr.heap.size + 1) #[.int .i64 x.r.id, .slice x.A x.r.names.length x.c, .int .u8 x.r.suf, .int .i64 x.r.lo, .int .i64 x.r.hi, .string x.r.num, .bool x.r.twin, .slice x.D x.r.stays.length x.d] 47 := (newAt' (wr.alloc (.cells #[.int .i64 y.r.id, .slice y.A y.r.names.length y.c, .int .u8 y.r.suf, .int .i64 y.r.lo, .int .i64 y.r.hi, .string y.r.num, .bool y.r.twin, .slice y.D y.r.stays.length y.d] 47)) #[.int .i64 x.r.id, .slice x.A x.r.names.length x.c, .int .u8 x.r.suf, .int .i64 x.r.lo, .int .i64 x.r.hi, .string x.r.num, .bool x.r.twin, .slice x.D x.r.stays.length x.d] 47 (World.size_alloc _ _).symm).drew
                                generalize ((wr.alloc (.cells #[.int .i64 y.r.id, .slice y.A y.r.names.length y.c, .int .u8 y.r.suf, .int .i64 y.r.lo, .int .i64 y.r.hi, .string y.r.num, .bool y.r.twin, .slice y.D y.r.stays.length y.d] 47)).alloc (.cells #[.int .i64 x.r.id, .slice x.A x.r.names.length x.c, .int .u8 x.r.suf, .int .i64 x.r.lo, .int .i64 x.r.hi, .string x.r.num, .bool x.r.twin, .slice x.D x.r.stays.length x.d] 47)).drew = W8 at *
                                have kc1 := hK1.cell
                                have kc2 := hK2.cell
                                have hb8' := hbn.trans (hbc.mono hbn.size)
                                have krc := (k5.below (hw7.trans (hb8'.mono hw7.size)) k5.lt).cell
                                have hxr := (Hl5.of_mem hx)
                                have hyr := (Hl5.of_mem hy)
                                have hE : cmpE u x.r y.r = 0 := by simp [cmpE, hR, Hrec.out x hx, Hrec.out y hy]
                                have HC := Lib.hid ((cmpM_good hE) ▸ hE ▸ compare_any u x.r y.r x.A y.A x.D y.D x.c y.c x.d y.d W8 (hsuf x hx) (hsuf y hy) (hxr.1.later (hw7.trans (hb8'.mono hw7.size))) (hyr.1.later (hw7.trans (hb8'.mono hw7.size))) hxr.2 hyr.2)
                                have hMn : (matF u x.r y.r).one = 2 → 2 ≤ (matF u x.r y.r).names := one_names
                                generalize matF u x.r y.r = M at HC hMn
                                clear hE hxr hyr hK1 hK2
                                have hbq8 : bq < W8.heap.size := Nat.lt_of_lt_of_le hbq hbc.size
                                have hc8 := (hbc.cell (p := ⟨bq, oq, none⟩) hbq).trans hc0
                                by_cases hid : x.r.id = y.r.id
                                · have hq1 : (x.r.id != y.r.id) = false := by simp [hid]
                                  clear hid
                                  go_wp2_with (go_at_call 23; (with_reducible refine (HC.out).mono ?_); rintro e w10 ⟨rfl, h10⟩; have c10 : ∀ o, (w10.alloc o).cell? ⟨bq, oq, none⟩ = some (.int .i64 y.r.id) := fun o => (((h10.alloc h10.size o).cell (p := ⟨bq, oq, none⟩) hbq8).trans hc8); have hfin := hb12.trans ((hbc.trans (h10.mono hbc.size)).mono hb12.size))
                                  go_roundw
                                  case rel => exact ⟨m + 1 + 1, _, by omega, by first | rfl | omega | simp, rfl, hfin.alloc hfin.size _⟩
                                  case measure => simp [intOf]; omega
                                · have hq1 : (x.r.id != y.r.id) = true := by simpa using hid
                                  clear hid
                                  by_cases h2 : M.one = 2
                                  · have hq2 : (M.one == 2) = true := by simp [h2]
                                    have hq3 : ¬ M.names < 2 := by have := hMn h2; omega
                                    clear h2 hMn
                                    go_wp2_with (go_at_call 23; (with_reducible refine (HC.out).mono ?_); rintro e w10 ⟨rfl, h10⟩; have c10 : ∀ o, (w10.alloc o).cell? ⟨bq, oq, none⟩ = some (.int .i64 y.r.id) := fun o => (((h10.alloc h10.size o).cell (p := ⟨bq, oq, none⟩) hbq8).trans hc8); have hfin := hb12.trans ((hbc.trans (h10.mono hbc.size)).mono hb12.size))
                                    go_roundw
                                    case rel => exact ⟨m + 1 + 1, _, by omega, by first | rfl | omega | simp, rfl, hfin.alloc hfin.size _⟩
                                    case measure => simp [intOf]; omega
                                  · have hq2 : (M.one == 2) = false := by simpa using h2
                                    clear h2 hMn
                                    go_wp2_with (go_at_call 23; (with_reducible refine (HC.out).mono ?_); rintro e w10 ⟨rfl, h10⟩; have c10 : ∀ o, (w10.alloc o).cell? ⟨bq, oq, none⟩ = some (.int .i64 y.r.id) := fun o => (((h10.alloc h10.size o).cell (p := ⟨bq, oq, none⟩) hbq8).trans hc8); have hfin := hb12.trans ((hbc.trans (h10.mono hbc.size)).mono hb12.size))
                                    go_roundw
                                    case rel => exact ⟨m + 1 + 1, _, by omega, by first | rfl | omega | simp, rfl, hfin.alloc hfin.size _⟩
                                    case measure => simp [intOf]; omega
                          · have hjl : ¬ z < ((V nx).length : Int) := by omega
                            clear hzj
                            go_wp2_with fail
                            go_roundw
                            case rel => exact ⟨k + 1, nx, by omega, by go_num, rfl, Lib.hid HPS.out.symm, hb11.trans (hb12.mono hb11.size)⟩
                            case measure => simp [intOf]; omega
                        -- its end
                      · as_aux_lemma =>
                        intro k1 v kl ya yb w1 cnt1 hkey hlk hv hat1 hrg1 hlt2 hg1 hs1 hen
                        obtain ⟨p, ep, rfl, hwp⟩ := Maps.keyOf_int_inv Tryz.underlying3 hkey
                        injection ep with _ ep
                        subst ep
                        have hv' := Option.some.inj hv
                        injection hv' with hv1 hv2
                        subst hv1
                        clear hv hv2
                        have hGv : G (.int .i64 k1) = some v := got_some HatD.out hat1
                        have hGk : (fun z => (G z).isSome) (Lit.int .i64 k1) = true := by show (G (.int .i64 k1)).isSome = true; rw [hGv]; rfl
                        have hk1 := HP0.out k1 ((HGs.out k1).2 hGk)
                        have HSn := Lib.hid (seenK_next (G := fun z => (G z).isSome) (left := left) (p := k1) hGk)
                        have hb10 : Below wo.heap.size wo w1 := hb9.grown hg1 hb9.size (fun k e => by have := Option.some.inj e; omega)
                        have Hrg1 := Lib.hid hrg1
                        clear hGv hGk hlk hat1 hrg1 hg1 hs1 hrg hkey
                        have hway : (pv < k1 ∧ nx < 0) ∨ (pv < k1 ∧ ¬ nx < 0 ∧ k1 < nx) ∨ (pv < k1 ∧ ¬ nx < 0 ∧ ¬ k1 < nx) ∨ ¬ pv < k1 := by omega
                        rcases hway with ⟨h1, h2⟩ | ⟨h1, h2, h3⟩ | ⟨h1, h2, h3⟩ | h1
                        · have HN := Lib.hid ((HNK.out.take hk1.1 h1 (.inl h2)).congr HSn.out)
                          clear HNK HSn
                          go_wp2_with fail
                          go_roundw
                          case rel => exact ⟨_, _, _, rfl, Lib.hid ⟨Hrg1.out, HN.out, hb10⟩⟩
                          case measure => rw [Hrg1.out.left_eq, Hrg.out.left_eq]; omega
                        · have HN := Lib.hid ((HNK.out.take hk1.1 h1 (.inr h3)).congr HSn.out)
                          clear HNK HSn
                          go_wp2_with fail
                          go_roundw
                          case rel => exact ⟨_, _, _, rfl, Lib.hid ⟨Hrg1.out, HN.out, hb10⟩⟩
                          case measure => rw [Hrg1.out.left_eq, Hrg.out.left_eq]; omega
                        · have HN := Lib.hid ((HNK.out.skip (p := k1) (fun _ => by omega)).congr HSn.out)
                          clear HNK HSn
                          go_wp2_with fail
                          go_roundw
                          case rel => exact ⟨_, _, _, rfl, Lib.hid ⟨Hrg1.out, HN.out, hb10⟩⟩
                          case measure => rw [Hrg1.out.left_eq, Hrg.out.left_eq]; omega
                        · have HN := Lib.hid ((HNK.out.skip (p := k1) (fun e => absurd e h1)).congr HSn.out)
                          clear HNK HSn
                          go_wp2_with fail
                          go_roundw
                          case rel => exact ⟨_, _, _, rfl, Lib.hid ⟨Hrg1.out, HN.out, hb10⟩⟩
                          case measure => rw [Hrg1.out.left_eq, Hrg.out.left_eq]; omega
                  · have hkl : ¬ (k : Int) < (P.length : Int) := by omega
                    go_wp2_with fail
                    go_ret
                    exact ⟨rfl, hb7.trans (hb8.mono hb7.size)⟩
      · have hne : (recsE (l.map RD.r) != 0) = true := by simpa using hz
        clear hz
        generalize recsE (l.map RD.r) = E at *
        go_enter Tryz.func9, Tryz.ntmps9
        go_wp2_with (first
          | (go_at_call 19; (with_reducible refine (HQ.out _).mono ?_); rintro e w1 ⟨rfl, h1⟩; have b1 := b0.trans (h1.mono b0.size); have Hl1 := h.later b1; have k1 := k0.below h1 k0.lt)
          | (go_at_call 10; (with_reducible refine (HG.out _ Hl1).mono ?_); rintro e w2 ⟨rfl, h2⟩; have b2 := b1.trans (h2.mono b1.size); have k2 := k1.below h2 k1.lt; have c2 := k2.cell)
          | (go_at_call 20; (with_reducible refine (HU.out _).mono ?_); rintro e w3 ⟨rfl, h3⟩; have b3 := b2.trans (h3.mono b2.size); have Hl3 := h.later b3)
          | (go_at_call 27; (with_reducible refine (HL.out _ Hl3).mono ?_); rintro e w4 ⟨rfl, h4⟩))
        go_ret
        exact ⟨rfl, b3.trans (h4.mono b3.size)⟩

end Go.Proofs.YtoinegfcodnjhaaGreat
