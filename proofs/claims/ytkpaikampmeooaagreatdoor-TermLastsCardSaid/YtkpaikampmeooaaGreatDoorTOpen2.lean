/- The bureau on a day, by the program: what the drawn statement makes. -/
import Derived.Test.YtkpaikampmeooaaGreatDoorTCardP9
import Derived.Test.YtkpaikampmeooaaGreatDoorTCardP8
import Derived.Test.YtkpaikampmeooaaGreatDoorTCardP5

namespace Go.Proofs.YtkpaikampmeooaaGreatDoor
open Go.RowKit Go.Maps

theorem far_blk {P : Program} {k : TypeId} {w : World} {m n g : Nat} {G : Lit → Option Value} {cs : Array Value} {t : TypeId} (h : MapFn w P k m n G) (hk : Blk w g cs t) : g ≠ m := by
  rintro rfl
  obtain ⟨_, ⟨es, clock, e, _⟩, _⟩ := h
  rw [show w.heap[g]? = _ from hk] at e
  cases e
theorem far_cell {P : Program} {k : TypeId} {w : World} {m n q : Nat} {G : Lit → Option Value} {v : Value} (h : MapFn w P k m n G) (hc : w.cell? ⟨q, 0, none⟩ = some v) : q ≠ m := by
  rintro rfl
  obtain ⟨_, ⟨es, clock, e, _⟩, _⟩ := h
  unfold World.cell? at hc
  simp [e] at hc
theorem LandFn.grown {W W' : World} {p m : Nat} {homes : List HomeT} (h : LandFn W p homes) (hg : W.grownBy W' (some m)) (h1 : p ≠ m) (h2 : m + 1 ≠ p) : LandFn W' p homes := by
  obtain ⟨m', e, hl, hc, hm⟩ := h
  exact ⟨m', e, Nat.lt_of_lt_of_le hl hg.size, (World.cell?_of_block (hg.block p hl (fun e => h1 (Option.some.inj e)))).trans hc, hm.kept hg (fun e2 => h2 (by rw [← Option.some.inj e2]; exact e))⟩
theorem StartAt.grown {W W' : World} {q m : Nat} {v : Value} (h : StartAt W q v) (hg : W.grownBy W' (some m)) (h1 : q ≠ m) : StartAt W' q v :=
  ⟨Nat.lt_of_lt_of_le h.1 hg.size, (World.cell?_of_block (hg.block q h.1 (fun e => h1 (Option.some.inj e)))).trans h.2⟩
theorem landFn_cell {W : World} {p : Nat} {homes : List HomeT} (h : LandFn W p homes) : ∃ v, W.cell? ⟨p, 0, none⟩ = some v := by
  obtain ⟨_, _, _, h2, _⟩ := h
  exact ⟨_, h2⟩
theorem landFn_lt {W : World} {p : Nat} {homes : List HomeT} (h : LandFn W p homes) : p < W.heap.size := by
  obtain ⟨_, _, h1, _⟩ := h
  exact h1

set_option maxRecDepth 100000 in
set_option maxHeartbeats 8000000 in
theorem open_good {l : List LawT} {s : List StillT} {homes : List HomeT} {rl : List Rep} (hw : BurWf l s homes rl) (A S H R : Option Addr) (c cs ch cr : Nat) (day : Int) (w : World) (h : BurAt w w.heap.size A S H R l s homes rl) (hN : NeedsAt w) (he : err4 l s homes rl day = 0) :
    OpenOk l s homes rl A S H R c cs ch cr day w := by
  have b1 := ((Below.refl w.heap.size w).alloc (Nat.le_refl _) (.cells #[.slice A l.length c, .slice S s.length cs] 25)).alloc (by simp) (.cells #[.slice none 0 0, .slice none 0 0, .int .i64 0, .slice none 0 0, .map none, .nilFunc, .nilFunc, .nilFunc, .nilFunc, .nilFunc] 51)
  have k1 := (Blk.new w #[.slice A l.length c, .slice S s.length cs] 25).alloc (.cells #[.slice none 0 0, .slice none 0 0, .int .i64 0, .slice none 0 0, .map none, .nilFunc, .nilFunc, .nilFunc, .nilFunc, .nilFunc] 51)
  have k2 := Blk.new (w.alloc (.cells #[.slice A l.length c, .slice S s.length cs] 25)) #[.slice none 0 0, .slice none 0 0, .int .i64 0, .slice none 0 0, .map none, .nilFunc, .nilFunc, .nilFunc, .nilFunc, .nilFunc] 51
  simp only [World.size_alloc] at k2
  obtain ⟨⟨hv1, hv2, hv3⟩, hv4, hv5⟩ := err4_zero.1 he
  unfold OpenOk
  have HWs := Lib.hid (laws_scope hv1)
  have Hnl := Lib.hid hw.nLaws
  have HC := Lib.hid (checkT_any hw A S H R c cs ch _ (h.later b1))
  rw [check4_zero.2 ⟨by unfold codeB; rw [hv1, hv2]; rfl, hv3⟩] at HC
  have hst : standE rl day = 0 := by unfold standE; rw [if_pos hv4, hv5]; rfl
  have HS := Lib.hid (fun W hb => standingTop_any rl R cr day W (h.later hb).reps (hN.later hb) hw.nReps hw.repWf)
  rw [hst] at HS
  have Hh := Lib.hid h
  have HLo := Lib.hid (fun W (hb : Below w.heap.size w W) => landOf_any homes H ch W (h.later hb).homes hw.nHomes hv3)
  have g1 := k1.lt
  have g2 := k2.lt
  clear h hN he hv1 hv2 hv3 hv4 hv5 hst hw
  generalize standR rl day = facts at *
  go_enter Tryz.func15, Tryz.ntmps15
  go_upto_region 1 with fail
  generalize hW1 : (w.alloc (.cells #[.slice A l.length c, .slice S s.length cs] 25)).alloc (.cells #[.slice none 0 0, .slice none 0 0, .int .i64 0, .slice none 0 0, .map none, .nilFunc, .nilFunc, .nilFunc, .nilFunc, .nilFunc] 51) = W1 at *
  clear hW1
  have k1c := k1.cell
  go_upto_region 7 with (first
    | (go_at_call 10; (with_reducible refine (HC.out).mono ?_); rintro e w2 ⟨rfl, h2⟩; have b2 := b1.trans (h2.mono b1.size); have k1b := k1.below h2 g1; have k2b := k2.below h2 g2)
    | (go_at_call 33; (with_reducible refine (HS.out _ b2).mono ?_); rintro e w3 ⟨v3, rfl, o3, h3⟩; have b3 := b2.trans (h3.mono b2.size); have k1d := k1b.below h3 k1b.lt; have k2d := k2b.below h3 k2b.lt; have g22 := k2b.lt; obtain ⟨F, cf, rfl⟩ := own_slice o3))
  have k1e := k1d.cell
  have hg3 := k1d.lt
  have K1 := Lib.hid k1d
  have HLo3 : Hid (∀ W, Below w3.heap.size w3 W → Calls Tryz.prog 34 #[.slice H homes.length ch] W fun e w' => e = .returned (landFn (W.heap.size + 1)) ∧ LandFn w' (W.heap.size + 1) homes ∧ Below W.heap.size W w' ∧ Hid (Below w3.heap.size w3 w')) := Lib.hid (fun W hb => (HLo.out W (b3.trans (hb.mono b3.size))).mono fun e w' ⟨q1, q2, q3⟩ => ⟨q1, q2, q3, Lib.hid (hb.trans (q3.mono hb.size))⟩)
  have HSt3 : Hid (∀ W, Below w3.heap.size w3 W → Calls Tryz.prog 35 #[.slice F facts.length cf] W fun e w' => e = .returned (.agg #[.nilFunc, .func (.func 58) #[] #[], .func (.func 59) #[] #[], .func (.func 60) #[] #[.pointer (some ⟨W.heap.size, 0, none⟩)]]) ∧ StartAt w' W.heap.size (.slice F facts.length cf) ∧ Below W.heap.size W w' ∧ Hid (Below w3.heap.size w3 w')) := Lib.hid (fun W hb => (startsOf_any F facts.length cf W).mono fun e w' ⟨q1, q2, q3⟩ => ⟨q1, q2, q3, Lib.hid (hb.trans (q3.mono hb.size))⟩)
  have hD := Lib.hid ((Below.refl w3.heap.size w3).drew)
  have hmm := @run_makeMap Tryz.prog
  have HO3 := Lib.hid o3
  have HG22 := Lib.hid g22
  have HB3 := Lib.hid b3
  have HK2 := Lib.hid k2d
  clear k1c k1 k2 k1b k2b k1d HC HS HLo b1 b2 h2 h3 g1 g2 o3 g22 k2d b3
  have hnew : ∀ (W : World) (i : Nat), (W.alloc (.cells #[.slice none 0 0, .slice none 0 0, .int .i64 0, .slice none 0 0, .map none, .nilFunc, .nilFunc, .nilFunc, .nilFunc, .nilFunc] 51)).cell? ⟨W.heap.size, i, none⟩ = (#[.slice none 0 0, .slice none 0 0, .int .i64 0, .slice none 0 0, .map none, .nilFunc, .nilFunc, .nilFunc, .nilFunc, .nilFunc] : Array Value)[i]? := fun W i => (Blk.new W #[.slice none 0 0, .slice none 0 0, .int .i64 0, .slice none 0 0, .map none, .nilFunc, .nilFunc, .nilFunc, .nilFunc, .nilFunc] 51).cell i
  have hfre : ∀ (W : World) (i : Nat), (W.alloc (.cells #[.slice none 0 0, .slice none 0 0, .int .i64 0, .slice none 0 0, .map none, .nilFunc, .nilFunc, .nilFunc, .nilFunc, .nilFunc] 51)).frozen? ⟨W.heap.size, i, none⟩ = false := fun W i => (Blk.new W #[.slice none 0 0, .slice none 0 0, .int .i64 0, .slice none 0 0, .map none, .nilFunc, .nilFunc, .nilFunc, .nilFunc, .nilFunc] 51).free i
  go_cut [13] (fun s13 wx => OpenPost w3 (.slice A l.length c) (.slice S s.length cs) (.int .i64 day) (.slice F facts.length cf) homes s13 wx)
  case first =>
    go_region_law (first
      | (go_simp; go_at_call 34; (with_reducible refine (HLo3.out _ (by repeat (first | with_reducible exact hD.out | with_reducible exact hva.out | with_reducible exact hvs.out | with_reducible exact Below.refl _ _ | with_reducible refine Below.drew ?_ | with_reducible refine bel_al ?_ (Nat.le_refl _) _))).mono ?_); rintro e wa ⟨rfl, hla, hba, hva⟩; have kca := K1.out.below hva.out K1.out.lt; have kcac := kca.cell; have kcal := kca.lt; clear kca; (first | have kza := kzb.below hba kzb.lt | have kza := (kzb.alloc _).below hba (kzb.alloc _).lt | have kza := Blk.below (Blk.new _ #[.slice none 0 0, .slice none 0 0, .int .i64 0, .slice none 0 0, .map none, .nilFunc, .nilFunc, .nilFunc, .nilFunc, .nilFunc] 51) hba (Blk.lt (Blk.new _ #[.slice none 0 0, .slice none 0 0, .int .i64 0, .slice none 0 0, .map none, .nilFunc, .nilFunc, .nilFunc, .nilFunc, .nilFunc] 51)) | have kza := Blk.below ((Blk.new _ #[.slice none 0 0, .slice none 0 0, .int .i64 0, .slice none 0 0, .map none, .nilFunc, .nilFunc, .nilFunc, .nilFunc, .nilFunc] 51).alloc _) hba (Blk.lt ((Blk.new _ #[.slice none 0 0, .slice none 0 0, .int .i64 0, .slice none 0 0, .map none, .nilFunc, .nilFunc, .nilFunc, .nilFunc, .nilFunc] 51).alloc _)) | have kza := Blk.below ((Blk.new _ #[.slice none 0 0, .slice none 0 0, .int .i64 0, .slice none 0 0, .map none, .nilFunc, .nilFunc, .nilFunc, .nilFunc, .nilFunc] 51).drew) hba (Blk.lt ((Blk.new _ #[.slice none 0 0, .slice none 0 0, .int .i64 0, .slice none 0 0, .map none, .nilFunc, .nilFunc, .nilFunc, .nilFunc, .nilFunc] 51).drew)) | have kza := Blk.below (((Blk.new _ #[.slice none 0 0, .slice none 0 0, .int .i64 0, .slice none 0 0, .map none, .nilFunc, .nilFunc, .nilFunc, .nilFunc, .nilFunc] 51).alloc _).drew) hba (Blk.lt (((Blk.new _ #[.slice none 0 0, .slice none 0 0, .int .i64 0, .slice none 0 0, .map none, .nilFunc, .nilFunc, .nilFunc, .nilFunc, .nilFunc] 51).alloc _).drew)) | have kza := (kzb.drew).below hba (kzb.drew).lt | have kza := ((kzb.alloc _).drew).below hba ((kzb.alloc _).drew).lt | skip); (try (simp only [World.size_alloc] at kza)); (try (have kzac := kza.cell; have kzaf := kza.free; have kzal := kza.lt)))
      | (go_simp; go_at_call 35; (with_reducible refine (HSt3.out _ (by repeat (first | with_reducible exact hD.out | with_reducible exact hva.out | with_reducible exact hvs.out | with_reducible exact Below.refl _ _ | with_reducible refine Below.drew ?_ | with_reducible refine bel_al ?_ (Nat.le_refl _) _))).mono ?_); rintro e ws ⟨rfl, hst, hbs, hvs⟩; have kcs := K1.out.below hvs.out K1.out.lt; have kcsc := kcs.cell; have kcsl := kcs.lt; clear kcs; (first | have kzb := kza.below hbs kza.lt | have kzb := (kza.alloc _).below hbs (kza.alloc _).lt | have kzb := Blk.below (Blk.new _ #[.slice none 0 0, .slice none 0 0, .int .i64 0, .slice none 0 0, .map none, .nilFunc, .nilFunc, .nilFunc, .nilFunc, .nilFunc] 51) hbs (Blk.lt (Blk.new _ #[.slice none 0 0, .slice none 0 0, .int .i64 0, .slice none 0 0, .map none, .nilFunc, .nilFunc, .nilFunc, .nilFunc, .nilFunc] 51)) | have kzb := Blk.below ((Blk.new _ #[.slice none 0 0, .slice none 0 0, .int .i64 0, .slice none 0 0, .map none, .nilFunc, .nilFunc, .nilFunc, .nilFunc, .nilFunc] 51).alloc _) hbs (Blk.lt ((Blk.new _ #[.slice none 0 0, .slice none 0 0, .int .i64 0, .slice none 0 0, .map none, .nilFunc, .nilFunc, .nilFunc, .nilFunc, .nilFunc] 51).alloc _)) | have kzb := Blk.below ((Blk.new _ #[.slice none 0 0, .slice none 0 0, .int .i64 0, .slice none 0 0, .map none, .nilFunc, .nilFunc, .nilFunc, .nilFunc, .nilFunc] 51).drew) hbs (Blk.lt ((Blk.new _ #[.slice none 0 0, .slice none 0 0, .int .i64 0, .slice none 0 0, .map none, .nilFunc, .nilFunc, .nilFunc, .nilFunc, .nilFunc] 51).drew)) | have kzb := Blk.below (((Blk.new _ #[.slice none 0 0, .slice none 0 0, .int .i64 0, .slice none 0 0, .map none, .nilFunc, .nilFunc, .nilFunc, .nilFunc, .nilFunc] 51).alloc _).drew) hbs (Blk.lt (((Blk.new _ #[.slice none 0 0, .slice none 0 0, .int .i64 0, .slice none 0 0, .map none, .nilFunc, .nilFunc, .nilFunc, .nilFunc, .nilFunc] 51).alloc _).drew)) | have kzb := (kza.drew).below hbs (kza.drew).lt | have kzb := ((kza.alloc _).drew).below hbs ((kza.alloc _).drew).lt | skip); (try (simp only [World.size_alloc] at kzb)); (try (have kzbc := kzb.cell; have kzbf := kzb.free; have kzbl := kzb.lt))))
    all_goals (go_wp2_with fail; go_meet)
    all_goals clear hnew hfre
    all_goals have z1 := hva.out.size
    all_goals have z2 := hvs.out.size
    all_goals have z3 := hbs.size
    all_goals have z4 := hba.size
    all_goals have z5 := landFn_lt hla
    all_goals try simp only [World.size_alloc, World.size_drew] at hla
    all_goals try simp only [World.size_alloc, World.size_drew] at z5
    all_goals try simp only [World.size_alloc] at hst
    all_goals try simp only [World.size_alloc] at z3
    all_goals try simp only [World.size_alloc, World.size_drew] at z4
    all_goals first
      | (with_reducible refine openPost_new ?_ ?_ ?_ ?_ ?_ ?_
         · first | rfl | (simp; done)
         · repeat (first | with_reducible exact lawMade' (by simp) | with_reducible refine LawFn.later ?_ hbs | with_reducible refine LawFn.later ?_ hba | with_reducible refine LawFn.later ?_ (bel_alloc _ _) | with_reducible refine LawFn.later ?_ (Below.refl _ _).drew)
         · repeat (first | with_reducible exact hla | with_reducible refine LandFn.below ?_ hbs | with_reducible refine LandFn.below ?_ (bel_alloc _ _) | with_reducible refine LandFn.below ?_ (Below.refl _ _).drew)
         · repeat (first | with_reducible exact hst | with_reducible refine StartAt.later ?_ (bel_alloc _ _) | with_reducible refine StartAt.later ?_ (Below.refl _ _).drew)
         · (try simp only [World.size_alloc, World.size_drew]); omega
         · repeat (first | with_reducible exact hvs.out | with_reducible refine bel_al ?_ (Nat.le_refl _) _ | with_reducible refine Below.drew ?_))
      | (with_reducible refine openPost_new_map ?_ ?_ ?_ ?_ ?_ ?_
         · first | rfl | (simp; done)
         · first | rfl | (simp; done)
         · repeat (first | with_reducible exact hla | with_reducible refine LandFn.below ?_ hbs | with_reducible refine LandFn.below ?_ (bel_alloc _ _) | with_reducible refine LandFn.below ?_ (Below.refl _ _).drew)
         · repeat (first | with_reducible exact hst | with_reducible refine StartAt.later ?_ (bel_alloc _ _) | with_reducible refine StartAt.later ?_ (Below.refl _ _).drew)
         · (try simp only [World.size_alloc, World.size_drew]); omega
         · repeat (first | with_reducible exact hvs.out | with_reducible refine bel_al ?_ (Nat.le_refl _) _ | with_reducible refine Below.drew ?_))
      | (with_reducible refine openPost_set kzb ?_ ?_ ?_ ?_ ?_ ?_
         · repeat (first | with_reducible exact lawMade' (by simp) | with_reducible refine LawFn.later ?_ hbs | with_reducible refine LawFn.later ?_ hba | with_reducible refine LawFn.later ?_ (bel_alloc _ _) | with_reducible refine LawFn.later ?_ (Below.refl _ _).drew)
         · repeat (first | with_reducible exact hla | with_reducible refine LandFn.below ?_ hbs | with_reducible refine LandFn.below ?_ (bel_alloc _ _) | with_reducible refine LandFn.below ?_ (Below.refl _ _).drew)
         · repeat (first | with_reducible exact hst | with_reducible refine StartAt.later ?_ (bel_alloc _ _) | with_reducible refine StartAt.later ?_ (Below.refl _ _).drew)
         · (try simp only [World.size_alloc, World.size_drew]); omega
         · (try simp only [World.size_alloc, World.size_drew]); omega
         · repeat (first | with_reducible exact hvs.out | with_reducible refine bel_al ?_ (Nat.le_refl _) _ | with_reducible refine Below.drew ?_))
      | (with_reducible refine openPost_set_map kzb ?_ ?_ ?_ ?_ ?_ ?_
         · first | rfl | (simp; done)
         · repeat (first | with_reducible exact hla | with_reducible refine LandFn.below ?_ hbs | with_reducible refine LandFn.below ?_ (bel_alloc _ _) | with_reducible refine LandFn.below ?_ (Below.refl _ _).drew)
         · repeat (first | with_reducible exact hst | with_reducible refine StartAt.later ?_ (bel_alloc _ _) | with_reducible refine StartAt.later ?_ (Below.refl _ _).drew)
         · (try simp only [World.size_alloc, World.size_drew]); omega
         · (try simp only [World.size_alloc, World.size_drew]); omega
         · repeat (first | with_reducible exact hvs.out | with_reducible refine bel_al ?_ (Nat.le_refl _) _ | with_reducible refine Below.drew ?_))
      | skip
  case rest =>
    obtain ⟨g, m, p, q, rfl, hP⟩ := hcut
    obtain ⟨kg, hl0, hd0, hs0, ⟨hm, hp, hq, hgg, hmp⟩, hbv⟩ := hP.out
    have hbn : Hid (w3.heap.size ≤ m ∧ w3.heap.size < p ∧ w3.heap.size ≤ q ∧ w3.heap.size ≤ g ∧ m + 1 ≠ p) := Lib.hid ⟨hm, hp, hq, hgg, hmp⟩
    have kgc := kg.cell
    have HI0 : Hid (Blk wc g #[.slice A l.length c, .slice S s.length cs, .int .i64 day, .slice F facts.length cf, .map (some m), landFn p, .nilFunc, .func (.func 58) #[] #[], .func (.func 59) #[] #[], .func (.func 60) #[] #[.pointer (some ⟨q, 0, none⟩)]] 51 ∧ LawFn wc m 0 (l.take 0) ∧ LandFn wc p homes ∧ StartAt wc q (.slice F facts.length cf) ∧ Below w3.heap.size w3 wc) := Lib.hid ⟨kg, hl0, hd0, hs0, hbv⟩
    clear kg hl0 hd0 hs0 hm hp hq hgg hmp hbv hP hnew hfre k1e HLo3 HSt3 hD hmm
    go_wp2_with fail
    clear kgc
    go_loopw [46] (fun ii wr => ∃ i : Nat, i ≤ l.length ∧ ii = .int .i64 i ∧ Hid (Blk wr g #[.slice A l.length c, .slice S s.length cs, .int .i64 day, .slice F facts.length cf, .map (some m), landFn p, .nilFunc, .func (.func 58) #[] #[], .func (.func 59) #[] #[], .func (.func 60) #[] #[.pointer (some ⟨q, 0, none⟩)]] 51 ∧ LawFn wr m i (l.take i) ∧ LandFn wr p homes ∧ StartAt wr q (.slice F facts.length cf) ∧ Below w3.heap.size w3 wr)) (fun ii _ => l.length - (vInt ii).toNat)
    case atStart => exact ⟨0, Nat.zero_le _, rfl, HI0⟩
    case round =>
      obtain ⟨i, hi, rfl, hR⟩ := hrel
      clear HI0
      obtain ⟨kg, hl1, hd1, hs1, hB1⟩ := hR.out
      by_cases hlt : i < l.length
      · have hil : (i : Int) < (l.length : Int) := by omega
        obtain ⟨b, off, rfl, hb, C⟩ := laws_at (Hh.out.later (HB3.out.trans (hB1.mono HB3.out.size))).laws hlt
        obtain ⟨c0, c1, c2, c3⟩ := C
        have hsw := HWs.out.1 l[i] (List.getElem_mem hlt)
        have hwfl : ∀ y ∈ l.take i, ScopeWf (scopeOf y) := fun y hy => HWs.out.1 y (List.mem_of_mem_take hy)
        have hne : ∀ y ∈ l.take i, scopeOf y ≠ scopeOf l[i] := fun y hy => by
          obtain ⟨j, hj, rfl⟩ := List.getElem_of_mem hy
          rw [List.length_take] at hj
          rw [List.getElem_take]
          exact (List.pairwise_iff_getElem.1 HWs.out.2) j i (by omega) hlt (by omega)
        have hnl := Hnl.out
        have gm := hl1.lt
        have gg := kg.lt
        have gp := landFn_lt hd1
        have gq := hs1.1
        have kg1 := kg.alloc (.cells #[.int .i64 l[i].land, .int .u8 l[i].kind, .int .u8 l[i].base, .int .i64 l[i].keep] 79)
        have hB2 := hB1.alloc hB1.size (.cells #[.int .i64 l[i].land, .int .u8 l[i].kind, .int .u8 l[i].base, .int .i64 l[i].keep] 79)
        obtain ⟨w4, hrun4, hput, hg4⟩ := (hl1.alloc (.cells #[.int .i64 l[i].land, .int .u8 l[i].kind, .int .u8 l[i].base, .int .i64 l[i].keep] 79)).put scopeKeyed Tryz.underlying46 (by unfold maxLen; omega) (scopeKey hsw) (val := .agg #[.int .i64 l[i].land, .int .u8 l[i].kind, .int .u8 l[i].base, .int .i64 l[i].keep])
        have hput2 := hput
        rw [show scopeL (scopeOf l[i]) = scopeL (l[i].land, l[i].kind) from rfl, lawG_snoc _ _ hsw hwfl hne, ← List.take_succ_eq_append_getElem hlt] at hput2
        have hrun5 : (Instr.mapUpdate 46 (.map (some m)) (.agg #[.int .i64 l[i].land, .int .u8 l[i].kind]) (.agg #[.int .i64 l[i].land, .int .u8 l[i].kind, .int .u8 l[i].base, .int .i64 l[i].keep])).run Tryz.prog (wr.alloc (.cells #[.int .i64 l[i].land, .int .u8 l[i].kind, .int .u8 l[i].base, .int .i64 l[i].keep] 79)) = .ok () w4 := hrun4
        have hnb := hbn.out
        have hBa := (Below.refl wr.heap.size wr).alloc (Nat.le_refl _) (.cells #[.int .i64 l[i].land, .int .u8 l[i].kind, .int .u8 l[i].base, .int .i64 l[i].keep] 79)
        have HJ : Hid (Blk w4 g #[.slice (some ⟨b, off, none⟩) l.length c, .slice S s.length cs, .int .i64 day, .slice F facts.length cf, .map (some m), landFn p, .nilFunc, .func (.func 58) #[] #[], .func (.func 59) #[] #[], .func (.func 60) #[] #[.pointer (some ⟨q, 0, none⟩)]] 51 ∧ LawFn w4 m (i + 1) (l.take (i + 1)) ∧ LandFn w4 p homes ∧ StartAt w4 q (.slice F facts.length cf) ∧ Below w3.heap.size w3 w4) := Lib.hid ⟨kg1.grown hg4 (fun e => far_blk hl1 kg (Option.some.inj e)), hput2, (hd1.below hBa).grown hg4 (far_cell hl1 (landFn_cell hd1).choose_spec) hnb.2.2.2.2, (hs1.later hBa).grown hg4 (far_cell hl1 hs1.2), hB2.grown hg4 hB2.size (fun k e => by have := Option.some.inj e; omega)⟩
        have kgc := kg1.cell
        have klc := (Blk.new wr #[.int .i64 l[i].land, .int .u8 l[i].kind, .int .u8 l[i].base, .int .i64 l[i].keep] 79).cell
        clear hput hput2 hrun4 kg hl1 hd1 hs1 hB1 hR kg1 hB2 hg4 hsw hwfl hne hBa
        generalize l[i] = x at *
        go_wp2_with fail
        go_roundw
        case rel => exact ⟨i + 1, by omega, by go_num, HJ⟩
        case measure => simp [vInt]; omega
      · have hil : ¬ (i : Int) < (l.length : Int) := by omega
        obtain rfl : i = l.length := by omega
        rw [List.take_length] at hl1
        have kgc := kg.cell
        have hnb := hbn.out
        have kr := HK2.out.below hB1 HK2.out.lt
        have krc := kr.cell
        have krf := kr.free
        have hg3' := HK2.out.lt
        have n1 : Hid ((⟨w.heap.size + 1, 0, none⟩ : Addr).block ≠ m ∧ (⟨w.heap.size + 1, 0, none⟩ : Addr).block ≠ p ∧ (⟨w.heap.size + 1, 0, none⟩ : Addr).block + 1 ≠ p ∧ (⟨w.heap.size + 1, 0, none⟩ : Addr).block ≠ q) := Lib.hid ⟨by show w.heap.size + 1 ≠ m; omega, by show w.heap.size + 1 ≠ p; omega, by show w.heap.size + 1 + 1 ≠ p; omega, by show w.heap.size + 1 ≠ q; omega⟩
        have hn0 : Hid (w.heap.size ≤ w.heap.size + 1) := Lib.hid (by omega)
        have hB1' := hB1
        have HF1 : Hid (LawFn ((((((((((wr.setCell ⟨w.heap.size + 1, 0, none⟩ (.slice A l.length c)).setCell ⟨w.heap.size + 1, 1, none⟩ (.slice S s.length cs)).setCell ⟨w.heap.size + 1, 2, none⟩ (.int .i64 day)).setCell ⟨w.heap.size + 1, 3, none⟩ (.slice F facts.length cf)).setCell ⟨w.heap.size + 1, 4, none⟩ (.map (some m))).setCell ⟨w.heap.size + 1, 5, none⟩ (landFn p)).setCell ⟨w.heap.size + 1, 6, none⟩ (.nilFunc)).setCell ⟨w.heap.size + 1, 7, none⟩ (.func (.func 58) #[] #[])).setCell ⟨w.heap.size + 1, 8, none⟩ (.func (.func 59) #[] #[])).setCell ⟨w.heap.size + 1, 9, none⟩ (.func (.func 60) #[] #[.pointer (some ⟨q, 0, none⟩)])) m l.length l) := Lib.hid (LawFn.set (LawFn.set (LawFn.set (LawFn.set (LawFn.set (LawFn.set (LawFn.set (LawFn.set (LawFn.set (LawFn.set hl1 (a := ⟨w.heap.size + 1, 0, none⟩) n1.out.1 (.slice A l.length c)) (a := ⟨w.heap.size + 1, 1, none⟩) n1.out.1 (.slice S s.length cs)) (a := ⟨w.heap.size + 1, 2, none⟩) n1.out.1 (.int .i64 day)) (a := ⟨w.heap.size + 1, 3, none⟩) n1.out.1 (.slice F facts.length cf)) (a := ⟨w.heap.size + 1, 4, none⟩) n1.out.1 (.map (some m))) (a := ⟨w.heap.size + 1, 5, none⟩) n1.out.1 (landFn p)) (a := ⟨w.heap.size + 1, 6, none⟩) n1.out.1 (.nilFunc)) (a := ⟨w.heap.size + 1, 7, none⟩) n1.out.1 (.func (.func 58) #[] #[])) (a := ⟨w.heap.size + 1, 8, none⟩) n1.out.1 (.func (.func 59) #[] #[])) (a := ⟨w.heap.size + 1, 9, none⟩) n1.out.1 (.func (.func 60) #[] #[.pointer (some ⟨q, 0, none⟩)]))
        have HF2 : Hid (LandFn ((((((((((wr.setCell ⟨w.heap.size + 1, 0, none⟩ (.slice A l.length c)).setCell ⟨w.heap.size + 1, 1, none⟩ (.slice S s.length cs)).setCell ⟨w.heap.size + 1, 2, none⟩ (.int .i64 day)).setCell ⟨w.heap.size + 1, 3, none⟩ (.slice F facts.length cf)).setCell ⟨w.heap.size + 1, 4, none⟩ (.map (some m))).setCell ⟨w.heap.size + 1, 5, none⟩ (landFn p)).setCell ⟨w.heap.size + 1, 6, none⟩ (.nilFunc)).setCell ⟨w.heap.size + 1, 7, none⟩ (.func (.func 58) #[] #[])).setCell ⟨w.heap.size + 1, 8, none⟩ (.func (.func 59) #[] #[])).setCell ⟨w.heap.size + 1, 9, none⟩ (.func (.func 60) #[] #[.pointer (some ⟨q, 0, none⟩)])) p homes) := Lib.hid (LandFn.set (LandFn.set (LandFn.set (LandFn.set (LandFn.set (LandFn.set (LandFn.set (LandFn.set (LandFn.set (LandFn.set hd1 (a := ⟨w.heap.size + 1, 0, none⟩) n1.out.2.1 n1.out.2.2.1 (.slice A l.length c)) (a := ⟨w.heap.size + 1, 1, none⟩) n1.out.2.1 n1.out.2.2.1 (.slice S s.length cs)) (a := ⟨w.heap.size + 1, 2, none⟩) n1.out.2.1 n1.out.2.2.1 (.int .i64 day)) (a := ⟨w.heap.size + 1, 3, none⟩) n1.out.2.1 n1.out.2.2.1 (.slice F facts.length cf)) (a := ⟨w.heap.size + 1, 4, none⟩) n1.out.2.1 n1.out.2.2.1 (.map (some m))) (a := ⟨w.heap.size + 1, 5, none⟩) n1.out.2.1 n1.out.2.2.1 (landFn p)) (a := ⟨w.heap.size + 1, 6, none⟩) n1.out.2.1 n1.out.2.2.1 (.nilFunc)) (a := ⟨w.heap.size + 1, 7, none⟩) n1.out.2.1 n1.out.2.2.1 (.func (.func 58) #[] #[])) (a := ⟨w.heap.size + 1, 8, none⟩) n1.out.2.1 n1.out.2.2.1 (.func (.func 59) #[] #[])) (a := ⟨w.heap.size + 1, 9, none⟩) n1.out.2.1 n1.out.2.2.1 (.func (.func 60) #[] #[.pointer (some ⟨q, 0, none⟩)]))
        have HF3 : Hid (StartAt ((((((((((wr.setCell ⟨w.heap.size + 1, 0, none⟩ (.slice A l.length c)).setCell ⟨w.heap.size + 1, 1, none⟩ (.slice S s.length cs)).setCell ⟨w.heap.size + 1, 2, none⟩ (.int .i64 day)).setCell ⟨w.heap.size + 1, 3, none⟩ (.slice F facts.length cf)).setCell ⟨w.heap.size + 1, 4, none⟩ (.map (some m))).setCell ⟨w.heap.size + 1, 5, none⟩ (landFn p)).setCell ⟨w.heap.size + 1, 6, none⟩ (.nilFunc)).setCell ⟨w.heap.size + 1, 7, none⟩ (.func (.func 58) #[] #[])).setCell ⟨w.heap.size + 1, 8, none⟩ (.func (.func 59) #[] #[])).setCell ⟨w.heap.size + 1, 9, none⟩ (.func (.func 60) #[] #[.pointer (some ⟨q, 0, none⟩)])) q (.slice F facts.length cf)) := Lib.hid (StartAt.set (StartAt.set (StartAt.set (StartAt.set (StartAt.set (StartAt.set (StartAt.set (StartAt.set (StartAt.set (StartAt.set hs1 (a := ⟨w.heap.size + 1, 0, none⟩) n1.out.2.2.2 (.slice A l.length c)) (a := ⟨w.heap.size + 1, 1, none⟩) n1.out.2.2.2 (.slice S s.length cs)) (a := ⟨w.heap.size + 1, 2, none⟩) n1.out.2.2.2 (.int .i64 day)) (a := ⟨w.heap.size + 1, 3, none⟩) n1.out.2.2.2 (.slice F facts.length cf)) (a := ⟨w.heap.size + 1, 4, none⟩) n1.out.2.2.2 (.map (some m))) (a := ⟨w.heap.size + 1, 5, none⟩) n1.out.2.2.2 (landFn p)) (a := ⟨w.heap.size + 1, 6, none⟩) n1.out.2.2.2 (.nilFunc)) (a := ⟨w.heap.size + 1, 7, none⟩) n1.out.2.2.2 (.func (.func 58) #[] #[])) (a := ⟨w.heap.size + 1, 8, none⟩) n1.out.2.2.2 (.func (.func 59) #[] #[])) (a := ⟨w.heap.size + 1, 9, none⟩) n1.out.2.2.2 (.func (.func 60) #[] #[.pointer (some ⟨q, 0, none⟩)]))
        have HF4 := Lib.hid (reps_own (own_far (own_far (own_far (own_far (own_far (own_far (own_far (own_far (own_far (own_far (own_below HO3.out hB1') (p := ⟨w.heap.size + 1, 0, none⟩) HG22.out (.slice A l.length c)) (p := ⟨w.heap.size + 1, 1, none⟩) HG22.out (.slice S s.length cs)) (p := ⟨w.heap.size + 1, 2, none⟩) HG22.out (.int .i64 day)) (p := ⟨w.heap.size + 1, 3, none⟩) HG22.out (.slice F facts.length cf)) (p := ⟨w.heap.size + 1, 4, none⟩) HG22.out (.map (some m))) (p := ⟨w.heap.size + 1, 5, none⟩) HG22.out (landFn p)) (p := ⟨w.heap.size + 1, 6, none⟩) HG22.out (.nilFunc)) (p := ⟨w.heap.size + 1, 7, none⟩) HG22.out (.func (.func 58) #[] #[])) (p := ⟨w.heap.size + 1, 8, none⟩) HG22.out (.func (.func 59) #[] #[])) (p := ⟨w.heap.size + 1, 9, none⟩) HG22.out (.func (.func 60) #[] #[.pointer (some ⟨q, 0, none⟩)])))
        have HF5 := Lib.hid (((((((((((HB3.out.trans (hB1.mono HB3.out.size)).setCell (p := ⟨w.heap.size + 1, 0, none⟩) hn0.out (.slice A l.length c)).setCell (p := ⟨w.heap.size + 1, 1, none⟩) hn0.out (.slice S s.length cs)).setCell (p := ⟨w.heap.size + 1, 2, none⟩) hn0.out (.int .i64 day)).setCell (p := ⟨w.heap.size + 1, 3, none⟩) hn0.out (.slice F facts.length cf)).setCell (p := ⟨w.heap.size + 1, 4, none⟩) hn0.out (.map (some m))).setCell (p := ⟨w.heap.size + 1, 5, none⟩) hn0.out (landFn p)).setCell (p := ⟨w.heap.size + 1, 6, none⟩) hn0.out (.nilFunc)).setCell (p := ⟨w.heap.size + 1, 7, none⟩) hn0.out (.func (.func 58) #[] #[])).setCell (p := ⟨w.heap.size + 1, 8, none⟩) hn0.out (.func (.func 59) #[] #[])).setCell (p := ⟨w.heap.size + 1, 9, none⟩) hn0.out (.func (.func 60) #[] #[.pointer (some ⟨q, 0, none⟩)]))
        have HF6 := Lib.hid ((((((((((kr.set 0 (.slice A l.length c)).set 1 (.slice S s.length cs)).set 2 (.int .i64 day)).set 3 (.slice F facts.length cf)).set 4 (.map (some m))).set 5 (landFn p)).set 6 (.nilFunc)).set 7 (.func (.func 58) #[] #[])).set 8 (.func (.func 59) #[] #[])).set 9 (.func (.func 60) #[] #[.pointer (some ⟨q, 0, none⟩)]))
        have hge : g ≠ w.heap.size + 1 := by omega
        clear hR kg hl1 hd1 hs1 hB1 hB1' kr hnb
        go_wp2_with fail
        have hrc := HF6.out.cell
        exact bodyPost_ret (v := .tuple #[.agg #[.slice A l.length c, .slice S s.length cs, .int .i64 day, .slice F facts.length cf, .map (some m), landFn p, .nilFunc, .func (.func 58) #[] #[], .func (.func 59) #[] #[], .func (.func 60) #[] #[.pointer (some ⟨q, 0, none⟩)]], .int .i64 0]) (by simp [results, Tryz.results15, go_sem, hrc]) rfl ⟨m, l.length, p, q, F, cf, rfl, ⟨HF1.out, HF2.out, HF3.out, HF4.out⟩, HF5.out⟩
end Go.Proofs.YtkpaikampmeooaaGreatDoor
