/- Who was at one place on a day: the walk of the program's Homes. -/
import Derived.Test.YtbkmfomdhjhkpaaGreatHomesG
namespace Go.Proofs.YtbkmfomdhjhkpaaGreat
open Go.RowKit Go.Maps

/-- The slice at A holds lists of numbers, below block B. -/
def Lists (w : World) (B : Nat) (A : Option Addr) (ll : List (List Int)) : Prop :=
  ∀ k, (h : k < ll.length) → ∃ b off, A = some ⟨b, off, none⟩ ∧ b < B ∧ ∃ A' c', w.cell? ⟨b, off + k, none⟩ = some (.slice A' ll[k].length c') ∧ Ints w B A' ll[k]

theorem listsZero (w : World) : (zeroValue 77).run Tryz.prog w = .ok nilS w := by kernel_rfl
theorem listInfo : (Tryz.prog.info? 77).map (fun i => (i.zero, i.size, i.bytes)) = some (some (.slice none 0 0), 1, 24) := by kernel_rfl

/-- A person's places, while the map of the day turns. -/
theorem ByPlace.turn {w w' : World} {m b : Nat} {l : List Stay} {o : Obj} (h : ByPlace w m l) (hg : w.grownBy w' (some b)) (hm : m ≠ b) (hr : w.heap[b]? = some o) (ho : o.isCells = false) : ByPlace w' m l := by
  obtain ⟨G, n, base, hn, hG⟩ := h
  exact ⟨G, n, base, hn, hG.turn hg hm hr ho⟩

theorem intKeyShape (key : Value) (kl : Lit) (h : keyOf Tryz.prog 3 key = some kl) : ∃ x : Int, key = Value.int .i64 x := by
  obtain ⟨z, rfl, _⟩ := Go.Maps.keyOf_int_inv Tryz.underlying3 h; exact ⟨z, rfl⟩
theorem rawShape (v : Value) (y : DataW Value × List MemPlace) (_ : rawElem v = some y) : ∃ c : Value, v = (fun u : Value => u) c := ⟨v, rfl⟩

set_option maxRecDepth 100000 in
set_option maxHeartbeats 4000000 in
theorem homes_any (day : Int) (l : List RD) (A : Option Addr) (c : Nat) (w : World) (h : Recs w w.heap.size A l) (hl : l.length ≤ maxLen) :
    Calls Tryz.prog 14 #[.slice A l.length c, .int .i64 day] w fun e w' => ∃ A' c', e = .returned (.tuple #[.slice A' (homesV day (l.map RD.r)).length c', .int .i64 (homesE day (l.map RD.r))]) ∧
      Lists w' w'.heap.size A' (homesV day (l.map RD.r)) ∧ Below w.heap.size w w' := by
  have b0 := (Below.refl w.heap.size w).alloc (Nat.le_refl _) (.cells #[.int .i64 day] 3)
  have k0 := Blk.new w #[.int .i64 day] 3
  cases hD : inB day 0 100000 with
  | false =>
    have hE : homesE day (l.map RD.r) = 2 := by rw [homesE, hD]; rfl
    have hV : homesV day (l.map RD.r) = [] := by rw [homesV, if_neg (by rw [hE]; decide)]
    rw [hE, hV]
    have HA := Lib.hid (fun W => hD ▸ within_any day 0 100000 W)
    clear hE hV hD
    go_enter Tryz.func14, Tryz.ntmps14
    go_wp2_with (go_at_call 35; with_reducible refine (HA.out _).mono ?_; rintro e w1 ⟨rfl, rfl⟩)
    go_ret2
    exact ⟨none, 0, rfl, fun k hk => by simp at hk, b0⟩
  | true =>
    have hEq : homesE day (l.map RD.r) = recsE (l.map RD.r) := by rw [homesE, hD]; rfl
    have HA := Lib.hid (fun W => hD ▸ within_any day 0 100000 W)
    have HL := Lib.hid (fun W hh => listE_eq l ▸ listError_any l A c W hh hl)
    by_cases hz : recsE (l.map RD.r) = 0
    · have hV : homesV day (l.map RD.r) = homesL day (sortR (l.map RD.r)) := by rw [homesV, if_pos (hEq.trans hz)]
      rw [hEq, hV, hz]
      rw [hz] at HL
      have HP := Lib.hid (fun W hh => people_at l A c W hh hz)
      obtain ⟨hrec, h24⟩ := recB_of_zero hz
      rw [List.length_map] at h24
      generalize sortR (l.map RD.r) = rl at *
      clear hV hEq hz hD
      have Hrec := Lib.hid hrec
      clear hrec
      have hmm := @run_makeMap Tryz.prog
      obtain ⟨i0, hi0, hz0, hz1, hz2⟩ := info_parts intInfo
      obtain ⟨j0, hj0, jz0, jz1, jz2⟩ := info_parts listInfo
      have Hl0 := h.later b0
      go_enter Tryz.func14, Tryz.ntmps14
      go_wp2_with (first
        | (go_at_call 35; with_reducible refine (HA.out _).mono ?_; rintro e w1 ⟨rfl, rfl⟩)
        | (go_at_call 30; with_reducible refine (HL.out _ Hl0).mono ?_; rintro e w2 ⟨rfl, h2⟩; have b2 := b0.trans (h2.mono b0.size); have b2m := b2.alloc b2.size (.map #[] 0); have Hl2 := h.later b2m)
        | (go_at_call 31; with_reducible refine (HP.out _ Hl2).mono ?_; rintro e w3 ⟨A', c', pl, rfl, hpl, hpn, hPA, hms, h3⟩; have b3 := b2m.trans (h3.mono b2m.size); have hp24 : pl.length ≤ 24 := (by omega); have Hpn := Lib.hid hpn; clear hpn))
      subst hpl
      have kd := (k0.below h2 (by simp)).alloc (.map #[] 0) |>.below h3 (by have := h2.size; simp at this ⊢; omega)
      have hM0 := (MapFn.made w2 Tryz.prog 3).below h3 (by simp)
      have hmlt : w2.heap.size < w3.heap.size := by have := h3.size; simp at this; omega
      have hms' : ∀ x ∈ pl, x.m ≠ w2.heap.size := fun x hx e => by have := hms x hx; simp at this; omega
      obtain ⟨es, clk, hobj⟩ := mapFn_heap hM0
      have hG0 : GroupsI w3 w3.heap.size w2.heap.size 0 (fun _ => none) (fun _ => []) := GroupsI.made hM0 hmlt
      have hws : w.heap.size < w2.heap.size := by have := h2.size; simp at this; omega
      have HG0 := Lib.hid hG0
      have Hms := Lib.hid hms'
      clear HA HL HP h2 h3 b0 b2 b2m Hl0 Hl2 hms hms' hM0 hG0 k0
      go_loopw [27] (fun ii wr => ∃ i : Nat, i ≤ pl.length ∧ ii = .int .i64 i ∧ ∃ G n, Hid (GroupsI wr w3.heap.size w2.heap.size n G (fun p => idsAt day p ((pl.map PD.r).take i)) ∧ n ≤ 6 * i ∧ w3.grownBy wr (some w2.heap.size))) (fun ii _ => pl.length - (intOf ii).toNat)
      case atStart => exact ⟨0, Nat.zero_le _, rfl, _, 0, Lib.hid ⟨HG0.out.congr (fun p => by simp [idsAt]), Nat.le_refl _, World.grownBy.but ⟨rfl, rfl, rfl, Nat.le_refl _, fun _ _ _ => rfl⟩ _⟩⟩
      case round =>
        obtain ⟨i, hi, rfl, G, n, hR⟩ := hrel
        by_cases hlt : i < pl.length
        · have hil : (i : Int) < (pl.length : Int) := by omega
          obtain ⟨hG, hn, hgw⟩ := hR.out
          clear hR
          obtain ⟨b, off, rfl, hb, C⟩ := (hPA.cells.turn hgw hobj rfl).nine hlt
          have hby := (hPA.by_ _ (List.getElem_mem hlt))
          have hmi := Hms.out _ (List.getElem_mem hlt)
          have HT := Lib.hid (List.take_succ_eq_append_getElem (l := pl.map PD.r) (i := i) (by simpa using hlt))
          rw [List.getElem_map] at HT
          have hst : staysB pl[i].r.stays = true := (recB_parts (Hrec.out _ (List.mem_map_of_mem (f := PD.r) (List.getElem_mem hlt)))).2.2.2.2.2
          generalize pl[i] = x at *
          obtain ⟨c0, c1, c2, c3, c4, c5, c6, c7, c8⟩ := C
          obtain ⟨Gp, np, basep, hnp, hGp⟩ := hby
          have hws3 : w3.heap.size ≤ wr.heap.size := hgw.size
          have hGp1 := (hGp.turn hgw hmi hobj rfl).keep (World.grownBy_alloc wr (.cells #[.int .i64 x.r.id, .slice x.A x.r.names.length x.c, .int .u8 x.r.suf, .int .i64 x.r.lo, .int .i64 x.r.hi, .string x.r.num, .bool x.r.twin, .slice x.D x.r.stays.length x.d, .map (some x.m)] 83) none)
          obtain ⟨D, hownD, hatD⟩ := hGp1.map
          have kx := Blk.new wr #[.int .i64 x.r.id, .slice x.A x.r.names.length x.c, .int .u8 x.r.suf, .int .i64 x.r.lo, .int .i64 x.r.hi, .string x.r.num, .bool x.r.twin, .slice x.D x.r.stays.length x.d, .map (some x.m)] 83
          have hxc := kx.cell
          have hG1 := hG.more (World.grownBy_alloc wr (.cells #[.int .i64 x.r.id, .slice x.A x.r.names.length x.c, .int .u8 x.r.suf, .int .i64 x.r.lo, .int .i64 x.r.hi, .string x.r.num, .bool x.r.twin, .slice x.D x.r.stays.length x.d, .map (some x.m)] 83) none)
          have hgw1 : w3.grownBy (wr.alloc (.cells #[.int .i64 x.r.id, .slice x.A x.r.names.length x.c, .int .u8 x.r.suf, .int .i64 x.r.lo, .int .i64 x.r.hi, .string x.r.num, .bool x.r.twin, .slice x.D x.r.stays.length x.d, .map (some x.m)] 83)) (some w2.heap.size) := hgw.andThen (World.grownBy_alloc wr _ none) (fun j e => by cases e)
          have hDs := size_le hownD
          obtain ⟨wo, rfl⟩ : ∃ wo : World, wo = wr := ⟨_, rfl⟩
          go_wp2_with (at_range; refine wpList_range_own _ rfl _ 81 rfl 3 45 (int_keyed Tryz.underlying3) Tryz.underlying81 rawElem x.m np D rfl hownD ?_; intro w0 hrg0 hg0 hs0)
          go_frame
          simp only [World.size_alloc] at hrg0 hs0 ⊢
          have hG2 := hG1.more hg0
          have hgw2 := hgw1.andThen hg0 (fun j e => by cases e)
          have kx2 := kx.grown hg0 (by simp)
          have HS := Lib.hid (fun p => partF_start (day := day) (l := (pl.map PD.r).take i) hGp1 hatD p)
          have hlow2 : w2.heap.size < wo.heap.size := by omega
          have HGp := Lib.hid hGp
          have HatD := Lib.hid hatD
          clear hG1 hgw1 hg0 hxc kx hownD hatD hGp1 hG c0 c1 c2 c3 c4 c5 c6 c7 c8 hGp
          go_loopw [10] (fun _ wi => ∃ left cnt G n, Hid (wi.ranges Tryz.prog 3 rawElem x.m (wo.heap.size + 1) np D left cnt ∧ GroupsI wi w3.heap.size w2.heap.size n G (partF day ((pl.map PD.r).take i) x.r left) ∧ n + cnt ≤ 6 * i + 6 ∧ w3.grownBy wi (some w2.heap.size) ∧ Blk wi wo.heap.size #[.int .i64 x.r.id, .slice x.A x.r.names.length x.c, .int .u8 x.r.suf, .int .i64 x.r.lo, .int .i64 x.r.hi, .string x.r.num, .bool x.r.twin, .slice x.D x.r.stays.length x.d, .map (some x.m)] 83 ∧ wo.heap.size + 1 < wi.heap.size)) (fun _ wi => wi.rangeLeft x.m (wo.heap.size + 1))
          case atStart => exact ⟨_, _, _, _, Lib.hid ⟨hrg0, hG2.congr HS.out, by omega, hgw2, kx2, by omega⟩⟩
          case round =>
            obtain ⟨left, cnt, G', n', hR⟩ := hrel
            obtain ⟨hrg, hGi, hnc, hgi, kxi, hlt1⟩ := hR.out
            clear hR
            have Hrg := Lib.hid hrg
            go_wp2_with (at_next; go_loud (refine wpList_next_ranges _ rfl _ rfl 3 (int_keyed Tryz.underlying3) rawElem (Value.int .i64) (fun u : Value => u) intKeyShape rawShape x.m (wo.heap.size + 1) np D left cnt rfl Hrg.out ?_ ?_))
            · intro _ hl0
              have HE := Lib.hid (hGi.congr (F' := fun p => idsAt day p ((pl.map PD.r).take (i + 1))) (fun p => by rw [HT.out]; exact partF_end hl0 p))
              have Hgi := Lib.hid hgi
              clear hl0 hrg hGi hgi kxi
              go_wp2_with fail
              go_roundw
              case rel => exact ⟨i + 1, by omega, by go_num, _, _, Lib.hid ⟨HE.out, by omega, Hgi.out⟩⟩
              case measure => simp [intOf]; omega
            · intro k1 v kl ya yb w1 cnt1 hkey hlk hv hat1 hrg1 hlt2 hg1 hs1 hen
              obtain ⟨p, ep, rfl, hwp⟩ := Maps.keyOf_int_inv Tryz.underlying3 hkey
              injection ep with _ ep
              subst ep
              have hv' := Option.some.inj hv
              injection hv' with hv1 hv2
              subst hv1
              clear hv hv2
              have hGv : Gp (.int .i64 k1) = some v := got_some HatD.out hat1
              obtain ⟨ob, hob, hoc⟩ := ranges_heap hrg
              have hGp1 := (HGp.out.turn hgi hmi hobj rfl).turn hg1 hrg.ne.symm hob hoc
              have hrow := hGp1.row k1
              rw [show atP Gp k1 = v by unfold atP; rw [hGv]; rfl] at hrow
              obtain ⟨A2, c2, rfl⟩ := own_slice hrow
              have hst2 := stays_of_own hrow
              have hn2 : (ofP x.r.stays k1).length ≤ 1000 := by
                have h1 := ofP_length x.r.stays k1
                have h2 : x.r.stays.length ≤ 6 := by simp only [staysB, Bool.and_eq_true, decide_eq_true_eq] at hst; exact hst.1
                omega
              have hgi1 := hgi.andThen hg1 (fun j e => by cases e; exact .inl (by omega))
              have hdb : w.heap.size < w3.heap.size := by omega
              have kd1 := kd.grown hgi1 (fun e => by have := Option.some.inj e; omega)
              have HC := Lib.hid (containsStay_any (ofP x.r.stays k1) day A2 c2 w.heap.size w1 hst2 hn2 (kd1.cell 0) kd1.lt)
              have hG1 := hGi.turn hg1 (by omega) hob hoc
              have kx1 := kxi.grown hg1 (fun e => by have := Option.some.inj e; omega)
              cases hb : atB day k1 x.r with
              | false =>
                rw [show (ofP x.r.stays k1).any (onDay day) = false from hb] at HC
                have HM := Lib.hid (hG1.congr (fun q => partF_miss hb q))
                clear hG1 hrow hst2 hGp1 hGv hat1 hb hGi kxi hgi kd1 hg1 hob
                go_wp2_with (go_at_call 36; with_reducible refine (HC.out).mono ?_; rintro e w4 ⟨rfl, h4⟩)
                have hg4 := grown_of_below h4
                have hz4 := h4.size
                have hrgN := hrg1.kept hg4 (by simp) (by simp)
                go_roundw
                case rel => exact ⟨_, _, _, _, Lib.hid ⟨hrgN, HM.out.more hg4, by omega, hgi1.andThen hg4 (fun j e => by cases e), kx1.grown hg4 (by simp), by omega⟩⟩
                case measure => rw [hrgN.left_eq, hrg.left_eq]; omega
              | true =>
                rw [show (ofP x.r.stays k1).any (onDay day) = true from hb] at HC
                have hF := Lib.hid (fun q => partF_hit (day := day) (l := (pl.map PD.r).take i) (r := x.r) hlk hb q)
                have hle : (partF day ((pl.map PD.r).take i) x.r left k1).length ≤ 25 := by
                  have := partF_le day ((pl.map PD.r).take i) x.r left k1
                  rw [List.length_take, List.length_map] at this
                  omega
                have HG1 := Lib.hid hG1
                have Hlk := Lib.hid hlk
                clear hG1 hrow hst2 hGp1 hGv hat1 hb hGi kxi hgi kd1 hg1 hob hlk
                have hxm : x.m < w3.heap.size := HGp.out.map.lt
                go_wp2_with (first
                  | (go_at_call 36; (with_reducible refine (HC.out).mono ?_); rintro e w4 ⟨rfl, h4⟩; have hg4 := grown_of_below h4; have hz4 := h4.size; have kx4 := kx1.grown hg4 (by simp); have kxc := kx4.cell; have hG4 := HG1.out.more hg4; have look := hG4.map.look (int_keyed Tryz.underlying3) Tryz.underlying87 (listsZero _) (keyOf_int_mk Tryz.underlying3 hwp); change _ = Result.ok (atP G' k1) _ at look; have hG5 := hG4.more (World.grownBy_alloc w4 (.cells #[.int .i64 x.r.id] 3) none); have HG5 := Lib.hid hG5; clear hG4 hG5)
                  | (at_builtin; refine wpList_append_own_at _ rfl _ _ 77 rfl w3.heap.size 3 i0 _ 1 8 Tryz.underlying77 hi0 hz0 hz1 hz2 rfl (by decide) _ _ _ rfl (HG5.out.row k1) ⟨w4.heap.size, 0, none⟩ 1 1 [.int .i64 x.r.id] rfl rfl (cell_one_new _ _ _) (by simp [Value.oneCell']) (by unfold maxLen; omega) (by omega) (by simp; omega) ?_; intro v' w5 hown5 hg5 _ hat5; obtain ⟨w6, hrun6, hput6, hg6⟩ := (HG5.out.map.kept hg5 (fun e => by have := ((HG5.out.row k1).lt _ e.symm).1; omega)).put (int_keyed Tryz.underlying3) Tryz.underlying87 (by unfold maxLen; omega) (keyOf_int_mk Tryz.underlying3 hwp) (val := v')))
                have hgN := HG5.out.step k1 x.r.id hg5 hown5 hat5 hput6 hg6
                have HGN := Lib.hid (hgN.congr hF.out)
                have hgr : w3.grownBy w6 (some w2.heap.size) := (((hgi1.andThen hg4 (fun j e => by cases e)).andThen (World.grownBy_alloc w4 (.cells #[.int .i64 x.r.id] 3) none) (fun j e => by cases e)).andThen hg5 (fun j e => .inl ((HG5.out.row k1).lt j e).1)).andThen hg6 (fun j e => .inr e)
                have hrg5 := (hrg1.kept hg4 (by simp) (by simp)).alloc (.cells #[.int .i64 x.r.id] 3)
                have hrg6 := (hrg5.kept hg5 (fun e => by have := ((HG5.out.row k1).lt _ e.symm).1; omega) (row_ne_iter (HG5.out.row k1) hrg5)).kept hg6 (fun e => hmi (Option.some.inj e)) (fun e => by have := Option.some.inj e; omega)
                have kx5 := kx4.alloc (.cells #[.int .i64 x.r.id] 3)
                have kx6 := (kx5.grown hg5 (blk_ne_own kx5 (by decide) (HG5.out.row k1))).grown hg6 (fun e => by have := Option.some.inj e; omega)
                have hz6 : wo.heap.size + 1 < w6.heap.size := by have h1 := hg5.size; have h2 := hg6.size; simp at h1; omega
                clear hgN hg5 hg6 hown5 hat5 hput6 kx4 kx5 hrg5 look kxc
                go_wp2_with fail
                go_roundw
                case rel => exact ⟨_, _, _, _, Lib.hid ⟨hrg6, HGN.out, by omega, hgr, kx6, hz6⟩⟩
                case measure => rw [hrg6.left_eq, hrg.left_eq]; omega
        · have hil : ¬ (i : Int) < (pl.length : Int) := by omega
          obtain ⟨hG, hn, hgw⟩ := hR.out
          clear hR
          have hall : (pl.map PD.r).take i = pl.map PD.r := List.take_of_length_le (by simp; omega)
          simp only [hall] at hG
          have hG1 := hG.more (World.grownBy_alloc wr (.cells #[.map (some w2.heap.size)] 87) none)
          obtain ⟨D, hownD, hatD⟩ := hG1.map
          have km := Blk.new wr #[.map (some w2.heap.size)] 87
          have hks := intKeys_spec hownD (int_keyed Tryz.underlying3) Tryz.underlying3
          have HK := Lib.hid (fun W => keysI_any w2.heap.size W)
          have HC := Lib.hid (collectK_any wr.heap.size w2.heap.size n D _ km.lt (km.cell 0) hownD (by omega))
          have hsome := hG1.some_
          have hpl : ∀ ss : List Int, ss.Perm (Go.intKeys D) → (ss.mergeSort fun x y => decide (x ≤ y)) = placesL day (pl.map PD.r) := fun ss hp => placesL_eq (hp.nodup_iff.2 hks.1) (fun p => by rw [hp.mem_iff, hks.2, has_some hatD, hsome])
          have Hpl := Lib.hid hpl
          have hkl : (Go.intKeys D).length ≤ 1000 := by
            have h1 := size_le hownD
            obtain ⟨es, hD, _⟩ := hownD.entries (int_keyed Tryz.underlying3)
            rw [hD] at h1 ⊢
            have h2 : (Go.intKeys (DataW.map es)).length = es.length := by show (es.map _).length = _; simp
            simp only [Maps.size] at h1
            omega
          have HG1 := Lib.hid hG1
          have hb0 := World.grownBy_alloc wr (.cells #[.map (some w2.heap.size)] 87) none
          clear hownD hatD hks hpl hsome hG hG1 km hall
          go_wp2_with (first
            | (go_at_call 40; (with_reducible refine (HK.out _).mono ?_); rintro e w4 ⟨rfl, rfl⟩)
            | (go_at_call 39; (with_reducible refine (HC.out).mono ?_); rintro e w5 ⟨v, ss, rfl, hp, hown5, h5⟩; obtain ⟨A5, c5, rfl⟩ := own_slice hown5; have hss : ss.length ≤ 1000 := (by rw [hp.length_eq]; exact hkl); have HI := Lib.hid (inOrderI_any A5 c5 ss hss w5 (Ints.of_own hown5)); rw [Hpl.out ss hp] at HI; have hlen : ss.length = (placesL day (pl.map PD.r)).length := (by rw [← Hpl.out ss hp, List.length_mergeSort]); rw [hlen] at HI ⊢; clear hown5 hp hlen)
            | (go_at_call 38; (with_reducible refine (HI.out).mono ?_); rintro e w6 ⟨A6, c6, rfl, hP6, h6⟩))
          have hg5 := grown_of_below h5
          have hg6 := grown_of_below h6
          have HG6 := Lib.hid ((HG1.out.more hg5).more hg6)
          have hkl2 : (placesL day (pl.map PD.r)).length ≤ 1000 := by rw [← Hpl.out (Go.intKeys D) (List.Perm.refl _), List.length_mergeSort]; exact hkl
          have HH : Hid (homesL day (pl.map PD.r) = (placesL day (pl.map PD.r)).map fun p => idsAt day p (pl.map PD.r)) := Lib.hid rfl
          have hb6 : Below w.heap.size w w6 := by
            have h1 : Below w.heap.size w wr := b3.grown hgw b3.size (fun k e => by cases e; omega)
            exact ((h1.alloc h1.size _).trans (h5.mono (by have := h1.size; simp; omega))).trans (h6.mono (by have := h1.size; have := h5.size; simp at *; omega))
          have Hwf : Hid (∀ p ∈ placesL day (pl.map PD.r), (Lit.int .i64 p).wf = true) := Lib.hid (fun p hp => by
            rw [placesL_mem] at hp
            obtain ⟨r, hr⟩ := List.exists_mem_of_ne_nil _ (fun e => hp (by unfold idsAt; rw [e]; rfl) : (pl.map PD.r).filter (atB day p) ≠ [])
            obtain ⟨hr1, hr2⟩ := List.mem_filter.1 hr
            obtain ⟨s, hs, _⟩ := List.any_eq_true.1 hr2
            obtain ⟨hs1, hs2⟩ := List.mem_filter.1 hs
            obtain ⟨k, hk, rfl⟩ := List.getElem_of_mem hs1
            have h1 := (staysB_at (recB_parts (Hrec.out _ hr1)).2.2.2.2.2 hk).1
            have h2 : r.stays[k].p = p := by simpa using hs2
            rw [h2] at h1
            exact WalkArith.wf_i64 (by simp [inB] at h1; omega))
          clear HG1 Hpl hg5 hg6 h5 h6 HC HK HI hkl hgw hb0
          generalize placesL day (pl.map PD.r) = K at *
          have hB6 : w6.heap.size ≤ w6.heap.size := Nat.le_refl _
          go_loopw [12, 58] (fun v ii wi => ∃ k : Nat, k ≤ K.length ∧ ii = .int .i64 k ∧ Hid (wi.ownsRow w6.heap.size 77 1 v k ((K.take k).map (atP G)) ∧ Below w6.heap.size w6 wi)) (fun _ ii _ => K.length - (intOf ii).toNat)
          case atStart => exact ⟨0, Nat.zero_le _, rfl, Lib.hid ⟨World.ownsRow_nil _ _ _ _, Below.refl _ _⟩⟩
          case round =>
            obtain ⟨k, hk, rfl, hQ⟩ := hrel
            obtain ⟨hown, hbk⟩ := hQ.out
            clear hQ
            by_cases hkt : k < K.length
            · have hkl3 : (k : Int) < (K.length : Int) := by omega
              obtain ⟨b6, off6, rfl, hb6', hc6⟩ := (hP6.later hbk) k hkt
              have HT := Lib.hid (List.take_succ_eq_append_getElem (l := K) (i := k) hkt)
              have hwp := Hwf.out _ (List.getElem_mem hkt)
              generalize K[k] = p at *
              have hG7 := HG6.out.more (grown_of_below hbk)
              have look := hG7.map.look (int_keyed Tryz.underlying3) Tryz.underlying87 (listsZero _) (keyOf_int_mk Tryz.underlying3 hwp)
              change _ = Result.ok (atP G p) _ at look
              obtain ⟨A7, c7, hv7⟩ := own_slice (hG7.row p)
              rw [hv7] at look
              have Hv7 := Lib.hid hv7
              have hownx := hown.alloc (.cells #[.slice A7 (idsAt day p (pl.map PD.r)).length c7] 77)
              have hsz := hbk.size
              clear hv7 hG7 hown
              go_wp2_with (at_builtin; refine wpList_append_own _ rfl _ _ 33 rfl w6.heap.size 77 j0 _ 1 24 Tryz.underlying33 hj0 jz0 jz1 jz2 rfl (by decide) _ _ _ rfl hownx ⟨wr.heap.size, 0, none⟩ 1 1 [.slice A7 (idsAt day p (pl.map PD.r)).length c7] rfl rfl (cell_one_new _ _ _) (by simp [Value.oneCell']) (by unfold maxLen; omega) (by omega) (by simp; omega) ?_; intro v' w8 hown8 hg8 _)
              have hrel8 : w8.ownsRow w6.heap.size 77 1 v' (k + 1) ((K.take (k + 1)).map (atP G)) := by
                rw [HT.out, List.map_append, List.map_singleton, Hv7.out]
                exact hown8
              have hb8 := (hbk.alloc hsz (.cells #[.slice A7 (idsAt day p (pl.map PD.r)).length c7] 77)).grown hg8 (by simp; omega) (fun j e => (hownx.lt j e).1)
              have Hrel := Lib.hid (And.intro hrel8 hb8)
              clear hown8 hrel8 hb8 hg8 hownx
              go_wp2_with fail
              go_roundw
              case rel => exact ⟨k + 1, by omega, by go_num, Hrel⟩
              case measure => simp [intOf]; omega
            · have hkl3 : ¬ (k : Int) < (K.length : Int) := by omega
              obtain rfl : k = K.length := by omega
              rw [List.take_of_length_le (Nat.le_refl _)] at hown
              obtain ⟨A8, c8, rfl⟩ := own_slice hown
              have Hown := Lib.hid hown
              have hlen : (homesL day (pl.map PD.r)).length = K.length := by rw [HH.out, List.length_map]
              have Hlen := Lib.hid hlen
              clear hown hlen
              go_wp2_with fail
              go_ret2
              refine ⟨A8, ⟨c8, by rw [Hlen.out]; rfl⟩, ?_, hb6.trans (hbk.mono hb6.size)⟩
              rw [HH.out]
              intro j hj
              rw [List.length_map] at hj
              obtain ⟨g, cap, hv, hgb, hglt⟩ := Hown.out.form (by omega)
              injection hv with hA
              subst hA
              have hG7 := HG6.out.more (grown_of_below hbk)
              obtain ⟨A9, c9, hv9⟩ := own_slice (hG7.row K[j])
              have hrow := hG7.row K[j]
              rw [hv9] at hrow
              refine ⟨g, 0, rfl, hglt, A9, c9, ?_, ?_⟩
              · rw [Nat.zero_add, Hown.out.cellAt j (by omega)]
                simp only [List.getElem_map]
                rw [List.getElem?_map, List.getElem?_eq_getElem hj, Option.map_some, hv9]
              · rw [List.getElem_map]
                exact Ints.of_own hrow
    · have hEz : homesE day (l.map RD.r) ≠ 0 := by rw [hEq]; exact hz
      have hV : homesV day (l.map RD.r) = [] := by rw [homesV, if_neg hEz]
      rw [hV, hEq]
      have hne : (recsE (l.map RD.r) != 0) = true := by simpa using hz
      clear hEq hz hEz hV hD
      generalize recsE (l.map RD.r) = E at HL hne ⊢
      have Hl0 := h.later b0
      go_enter Tryz.func14, Tryz.ntmps14
      go_wp2_with (first
        | (go_at_call 35; with_reducible refine (HA.out _).mono ?_; rintro e w1 ⟨rfl, rfl⟩)
        | (go_at_call 30; with_reducible refine (HL.out _ Hl0).mono ?_; rintro e w2 ⟨rfl, h2⟩; have b2 := b0.trans (h2.mono b0.size)))
      go_ret2
      exact ⟨none, 0, rfl, fun k hk => by simp at hk, b2⟩

end Go.Proofs.YtbkmfomdhjhkpaaGreat
